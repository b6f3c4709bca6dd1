/-
  Nrtext.
-/
import Derived.Test.YtllfanlhgnkcfaaGreatDoorQ43
import Derived.Test.YtllfanlhgnkcfaaGreatDoorQ46
import Derived.Shelf.RegionOpenPlain
namespace Go.Proofs.YtllfanlhgnkcfaaGreatDoor.N
open Go.RowKit Go.Proofs.Lys
set_option linter.unusedVariables false
set_option linter.unusedSimpArgs false
theorem bytes_conv {w : World} {v : Value} {bs : List UInt8} (h : SrcOf w v (bs.map bV)) : (convert 28 9 v).run Tryz.prog w = .ok (.string (mkB bs)) w := by
 rcases h with ⟨rfl, e⟩ | ⟨a, c, rfl, hc⟩
 ·have : bs = [] := List.map_eq_nil_iff.1 e
  subst this
  exact run_convert_bytes_nil (P := Tryz.prog) w 28 5 Tryz.underlying28 Tryz.underlying5 0 0 9 Tryz.underlying9
 ·rw [List.length_map]
  refine run_convert_bytes_back (P := Tryz.prog) w 28 9 5 a c bs Tryz.underlying28 Tryz.underlying5 Tryz.underlying9 (fun j hj => ?_)
  exact hc j _ (by rw [List.getElem?_map, List.getElem?_eq_getElem hj]; rfl)
abbrev BytAt (w : World) (B : Nat) (v : Value) (l : List UInt8) : Prop := w.ownsRow B 5 1 v l.length (l.map bV)
theorem byt_step {w0 w : World} {v : Value} {l : List UInt8} (hown : BytAt w w0.heap.size v l) (hk : Kept w0 w) (q : List UInt8) (hq : 0 < q.length) (hl : l.length + q.length < 1000000) :
  ∃ g cap w', Hid ((Builtin.append_ #[28, 28] 0 #[v, .slice (some ⟨w.heap.size, 0, none⟩) q.length q.length]).run Tryz.prog (w.alloc (.cells (q.map bV).toArray 5)) = .ok (.slice (some ⟨g, 0, none⟩) (l.length + q.length) cap) w') ∧ BytAt w' w0.heap.size (.slice (some ⟨g, 0, none⟩) (l.length + q.length) cap) (l ++ q) ∧ Kept w0 w' := by
 have k1 : Kept w (w.alloc (.cells (q.map bV).toArray 5)) := (Only.refl _ w).alloc _
 have hs1 := hk.size
 have hsrc : SrcOf (w.alloc (.cells (q.map bV).toArray 5)) (.slice (some ⟨w.heap.size, 0, none⟩) q.length q.length) (q.map bV) := by
  refine .inr ⟨⟨w.heap.size, 0, none⟩, q.length, by rw [List.length_map], fun j u hu => ?_⟩
  rw [add_none, Nat.zero_add]
  exact (Blk.new w (q.map bV) 5).cell j hu
 obtain ⟨v', w', hr, h1, h2, h3⟩ := append_src (P := Tryz.prog) (base := w0.heap.size) Tryz.underlying28 Tryz.infoByteN rfl (by decide) (own_only hown k1 (fun _ _ f => f)) hsrc (bytes_one q) (by rw [List.length_map]; omega) (Nat.le_trans hs1 k1.size)
 obtain ⟨g, cap, rfl⟩ := own_some h1 (by rw [List.length_map]; omega)
 rw [List.length_map] at hr h1
 refine ⟨g, cap, w', hr, ?_, (hk.trans k1 (fun _ _ f => f)).grown h2 (fun j hj hlt => by have := (own_only hown k1 (fun _ _ f => f)).lt j hj; omega)⟩
 unfold BytAt
 rw [List.length_append, List.map_append]
 exact h1
theorem append_step {P : Program} {ops : Array Oper} {o : Oper} {a : Act} {w : World} {K : Act → World → Prop} {Q : Exit → Act → World → Prop} {E : Prop} (hgd : o.guard = none) (s x : Operand) (t : TypeId)
  (ho : o.op = .call { callee := .builtin .append, args := #[s, x], argTypes := #[t, t] }) {sv xv : Value} (hs : a.eval s = sv) (hx : a.eval x = xv) {v : Value} {w' : World}
  (hrun : Hid ((Builtin.append_ #[t, t] 0 #[sv, xv]).run P w = .ok v w')) (h : K (a.put o.dst v) w') : if Region.wanted o (yielded ops a.tmps) = true then Oper.wp P o a w K Q else E := by
 rw [if_pos (by simp [Region.wanted, hgd])]
 exact oper_append s x t ho hs hx hrun h
theorem quote_snoc (s : ByteArray) (k : Nat) (h : k < s.size) : quoteL (s.data.toList.take (k + 1)) = quoteL (s.data.toList.take k) ++ quoteB (s[k]'h) := by
 rw [take_snoc s k h, quoteL_app]
 simp [quoteL]
set_option maxRecDepth 100000 in
set_option maxHeartbeats 3200000 in
theorem rquote_any (w : World) (s : ByteArray) (hs : s.size ≤ 1000) :
  Calls Tryz.prog 54 #[.string s] w fun e w' => e = .returned (.string (mkB (34 :: (quoteL s.data.toList ++ [34])))) ∧ Kept w w' := by
 have HS0 : Hid (BytAt (w.alloc (.cells #[.int .u8 34] 5)) w.heap.size (.slice (some ⟨w.heap.size, 0, none⟩) 1 1) (34 :: quoteL (s.data.toList.take 0)) ∧ Kept w (w.alloc (.cells #[.int .u8 34] 5))) := by
  refine ⟨?_, (Only.refl _ w).alloc _⟩
  have := World.ownsRow_lit (base := w.heap.size) (e := 5) (size := 1) w #[.int .u8 34] 1 (Nat.le_refl _) (by unfold maxLen; omega) rfl
  exact this
 have mixed : Tryz.prog.follows Departure.mixedOrders = true := by kernel_rfl
 go_enter Tryz.func54, Tryz.ntmps54
 go_wp2
 generalize w.alloc (.cells #[.int .u8 34] 5) = w0 at HS0 ⊢
 go_loopw [3, 4] (fun b i wr => ∃ (k : Nat), k ≤ s.size ∧ i = .int .i64 (k : Int) ∧ BytAt wr w.heap.size b (34 :: quoteL (s.data.toList.take k)) ∧ Kept w wr) (fun _ i _ => s.size - (intOf i).toNat)
 case atStart => exact ⟨0, by omega, rfl, HS0.out⟩
 case round =>
  obtain ⟨k, hk, rfl, hat, kr⟩ := hrel
  obtain ⟨oa, oc, rfl⟩ := own_slice hat
  have hql := quote_len (s.data.toList.take k)
  rw [List.length_take] at hql
  have hln : (34 :: quoteL (s.data.toList.take k)).length ≤ 1 + 3 * s.size := by simp; omega
  have HA := hid hat
  have HK := hid kr
  by_cases hlt : k < s.size
  ·have HQ := hid (quote_snoc s k hlt)
   have hcl := (s[k]'hlt).toNat_lt
   cases hsh : shownB (s[k]'hlt) with
   | true =>
    have hq1 : quoteB (s[k]'hlt) = [s[k]'hlt] := by unfold quoteB; rw [hsh]; rfl
    obtain ⟨g, cap, w4, Hr, hat4, hk4⟩ := byt_step (w0 := w) hat kr [s[k]'hlt] (by simp) (by simp only [List.length_singleton]; omega)
    simp only [List.map_cons, List.map_nil, List.length_singleton, bV] at Hr hat4
    rw [List.cons_append, ← hq1, ← HQ.out] at hat4
    have HA4 := hid hat4
    have HK4 := hid hk4
    clear hat4 hk4 hat kr hq1
    simp only [shownB, Bool.and_eq_true, decide_eq_true_eq] at hsh
    generalize (34 :: quoteL (s.data.toList.take k)).length = N at Hr HA4 hln ⊢
    generalize hc : s[k]'hlt = c at Hr hsh hcl
    have p1 : ¬ ((c.toNat : Int) < 32) := by omega
    have p2 : ¬ ((126 : Int) < (c.toNat : Int)) := by omega
    have p3 : ((c.toNat : Int) == 34) = false := by simp; omega
    have p4 : ((c.toNat : Int) == 92) = false := by simp; omega
    clear HA HQ hsh
    go_wp2_with (at_builtin; refine wpList_append_run rfl _ _ _ rfl rfl rfl Hr ?_)
    refine ⟨⟨k + 1, by omega, by go_num, HA4.out, HK4.out⟩, ?_⟩
    simp [intOf]
    omega
   | false =>
    have hq1 : quoteB (s[k]'hlt) = [92, hexD ((s[k]'hlt).toNat / 16), hexD ((s[k]'hlt).toNat % 16)] := by unfold quoteB; rw [hsh]; rfl
    obtain ⟨g, cap, w4, Hr, hat4, hk4⟩ := byt_step (w0 := w) (w := wr.drew) (own_only hat ((Only.refl _ wr).drew) (fun _ _ f => f)) kr.drew [92, hexD ((s[k]'hlt).toNat / 16), hexD ((s[k]'hlt).toNat % 16)] (by simp) (by simp only [List.length_cons, List.length_nil] at hln ⊢; omega)
    simp only [List.map_cons, List.map_nil, bV] at Hr
    rw [List.cons_append, ← hq1, ← HQ.out] at hat4
    have hl3 : ([92, hexD ((s[k]'hlt).toNat / 16), hexD ((s[k]'hlt).toNat % 16)] : List UInt8).length = 3 := rfl
    rw [hl3] at Hr
    rw [hq1, hl3] at hat4
    have HA4 := hid hat4
    have HK4 := hid hk4
    clear hat4 hk4 hat kr hq1 hl3
    have hns : ¬ (32 ≤ (s[k]'hlt).toNat ∧ (s[k]'hlt).toNat ≤ 126 ∧ (s[k]'hlt).toNat ≠ 34 ∧ (s[k]'hlt).toNat ≠ 92) := by
     rintro ⟨q1, q2, q3, q4⟩
     have : shownB (s[k]'hlt) = true := by
      simp only [shownB, Bool.and_eq_true, decide_eq_true_eq]
      exact ⟨⟨⟨q1, q2⟩, q3⟩, q4⟩
     rw [hsh] at this
     cases this
    generalize (34 :: quoteL (s.data.toList.take k)).length = N at Hr HA4 hln ⊢
    generalize hc : s[k]'hlt = c at Hr hns hcl
    have d1 := digits_at (c.toNat / 16) (by omega)
    have d2 := digits_at (c.toNat % 16) (by omega)
    clear HA HQ hsh
    have q0 : IntKind.u8.wrap ((c.toNat : Int) / 16) = ((c.toNat / 16 : Nat) : Int) := by
     simp [IntKind.wrap, IntKind.bits, IntKind.signed]
     omega
    have a0 : (0 : Int) ≤ (c.toNat : Int) / 16 := by omega
    have a1 : (c.toNat : Int) / 16 < 16 := by omega
    have a2 : ((c.toNat : Int) / 16).toNat = c.toNat / 16 := by omega
    have m0 : (c.toNat : Int).tmod 16 = (c.toNat : Int) % 16 := Int.tmod_eq_emod_of_nonneg (by omega)
    have b0 : (0 : Int) ≤ (c.toNat : Int) % 16 := by omega
    have b1 : (c.toNat : Int) % 16 < 16 := by omega
    have b2 : ((c.toNat : Int) % 16).toNat = c.toNat % 16 := by omega
    by_cases z1 : c.toNat < 32
    ·have p1 : (c.toNat : Int) < 32 := by omega
     go_wp2_with fail
     go_region_law_o (refine append_step rfl _ _ 28 rfl (by simp [Act.eval, Act.put]) (by simp [Act.eval, Act.put]) Hr ?_)
     all_goals go_wp2_with fail
     all_goals refine ⟨⟨k + 1, by omega, by go_num, HA4.out, HK4.out⟩, ?_⟩
     all_goals simp [intOf]
     all_goals omega
    by_cases z2 : 126 < c.toNat
    ·have p1 : ¬ ((c.toNat : Int) < 32) := by omega
     have p2 : (126 : Int) < (c.toNat : Int) := by omega
     go_wp2_with fail
     go_region_law_o (refine append_step rfl _ _ 28 rfl (by simp [Act.eval, Act.put]) (by simp [Act.eval, Act.put]) Hr ?_)
     all_goals go_wp2_with fail
     all_goals refine ⟨⟨k + 1, by omega, by go_num, HA4.out, HK4.out⟩, ?_⟩
     all_goals simp [intOf]
     all_goals omega
    have p1 : ¬ ((c.toNat : Int) < 32) := by omega
    have p2 : ¬ ((126 : Int) < (c.toNat : Int)) := by omega
    by_cases z3 : c.toNat = 34
    ·have p3 : ((c.toNat : Int) == 34) = true := by simp; omega
     have HZ := hid z3
     clear z3 hns
     go_wp2_with fail
     go_region_law_o (refine append_step rfl _ _ 28 rfl (by simp [Act.eval, Act.put]) (by simp [Act.eval, Act.put]) Hr ?_)
     all_goals go_wp2_with fail
     all_goals refine ⟨⟨k + 1, by omega, by go_num, HA4.out, HK4.out⟩, ?_⟩
     all_goals simp [intOf]
     all_goals omega
    have p3 : ((c.toNat : Int) == 34) = false := by simp; omega
    have p4 : ((c.toNat : Int) == 92) = true := by simp; omega
    clear hns
    go_wp2_with fail
    go_region_law_o (refine append_step rfl _ _ 28 rfl (by simp [Act.eval, Act.put]) (by simp [Act.eval, Act.put]) Hr ?_)
    all_goals go_wp2_with fail
    all_goals refine ⟨⟨k + 1, by omega, by go_num, HA4.out, HK4.out⟩, ?_⟩
    all_goals simp [intOf]
    all_goals omega
  ·have e : k = s.size := by omega
   subst e
   have htk : s.data.toList.take s.size = s.data.toList := List.take_of_length_le (by rw [← Lib.size_eq]; omega)
   rw [htk] at hat hln ⊢
   obtain ⟨g, cap, w4, Hr, hat4, hk4⟩ := byt_step (w0 := w) hat kr [34] (by simp) (by simp only [List.length_singleton]; omega)
   have hcv := bytes_conv (own_src hat4)
   have HE : Hid (34 :: quoteL s.data.toList ++ [34] = 34 :: (quoteL s.data.toList ++ [34])) := rfl
   rw [HE.out] at hcv
   simp only [List.map_cons, List.map_nil, List.length_singleton, bV] at Hr hcv
   have HK4 := hid hk4
   clear hat4 hk4 hat kr htk HA
   generalize (34 :: quoteL s.data.toList).length = N at Hr hln hcv ⊢
   generalize hR : mkB (34 :: (quoteL s.data.toList ++ [34])) = R at hcv
   have HRR := hid hR
   clear hR
   go_wp2_with (at_builtin; refine wpList_append_run rfl _ _ _ rfl rfl rfl Hr ?_)
   go_ret
   exact ⟨by rw [HRR.out]; rfl, HK4.out⟩
def refT (l : Labs) : List UInt8 := if l = [] then [123] else accT l
theorem refT_snoc {m : Labs} {k : Nat} (hk : k < m.length) : refT (m.take (k + 1)) = (if k = 0 then refT (m.take k) else refT (m.take k) ++ [44]) ++ labT m[k] := by
 rw [← List.take_append_getElem hk]
 unfold refT
 rw [if_neg (fun e => by have := congrArg List.length e; rw [List.length_append] at this; simp at this), accT_snoc]
 by_cases h : k = 0
 ·subst h
  simp [accT]
 ·have hne : m.take k ≠ [] := fun e => by
   have := congrArg List.length e
   rw [List.length_take, List.length_nil] at this
   omega
  rw [if_neg hne, if_neg h, if_neg hne]
  simp
set_option maxRecDepth 100000 in
set_option maxHeartbeats 3200000 in
theorem rtext_any (w : World) (v : Value) (l : Labs) (hs : LabSrc w v l) (hl : l.length ≤ 100000) (hB : Small l) :
  Calls Tryz.prog 28 #[v] w fun e w' => e = .returned (.string (txtB l)) ∧ Kept w w' := by
 have HM := hid (rmake_any w v l hs hl hB)
 obtain ⟨a1, c1, rfl⟩ := hs.len
 clear hs
 cases hm : makeL l with
 | none =>
  have Ht : Hid (txtB l = ⟨#[]⟩) := by refine hid ?_; unfold txtB; rw [hm]
  rw [hm] at HM
  go_enter Tryz.func28, Tryz.ntmps28
  go_wp2_with (go_at_call 32; refine HM.out.mono ?_)
  rintro e w1 ⟨⟨u, n, rfl, rfl, rfl⟩, k1⟩
  go_wp2
  go_ret
  exact ⟨by rw [Ht.out]; rfl, k1⟩
 | some m =>
  have Ht : Hid (txtB l = mkB (textL m)) := by refine hid ?_; unfold txtB; rw [hm]
  have HD := hid (makeL_made hm)
  rw [hm] at HM
  clear hm
  go_enter Tryz.func28, Tryz.ntmps28
  go_wp2_with (go_at_call 32; refine HM.out.mono ?_)
  rintro e w1 ⟨⟨u, n, rfl, rfl, hat⟩, k1⟩
  obtain ⟨g, cap, rfl⟩ := ownN_some hat HD.out.len
  have HA := hid hat
  have HK := hid k1
  have hL16 := HD.out.len16
  have hL0 := HD.out.len
  clear hat k1
  obtain ⟨M, hM⟩ : ∃ M, m.length = M := ⟨_, rfl⟩
  rw [hM] at HA hL16 hL0 ⊢
  have HMl := hid hM
  clear hM
  go_wp2
  go_loopw [5, 6] (fun q i wr => ∃ (k : Nat) (Q : ByteArray), k ≤ M ∧ i = .int .i64 (k : Int) ∧ q = .string Q ∧ Q.data.toList = refT (m.take k) ∧ Kept w1 wr) (fun _ i _ => M - (intOf i).toNat)
  case atStart => exact ⟨0, _, by omega, rfl, rfl, rfl, Only.refl _ _⟩
  case round =>
   obtain ⟨k, Q, hk, rfl, rfl, hQ, kr⟩ := hrel
   have HQ := hid hQ
   have HKr := hid kr
   have hQs : Q.size ≤ 5000 := by
    rw [Lib.size_eq, hQ]
    have h1 := accT_len (l := m.take k) (fun x hx => HD.out.ok x (List.mem_of_mem_take hx))
    have h2 : (m.take k).length ≤ 16 := by rw [List.length_take]; omega
    unfold refT
    split
    ·simp
    ·omega
   by_cases hlt : k < M
   ·have hkl : k < m.length := by have := HMl.out; omega
    obtain ⟨b1, o1, e1, x1, y1⟩ := (LabAt.src (ownN_stay (by have := HA.out; rw [← HMl.out] at this; exact this) kr)).cell rfl k hkl
    simp only [Option.some.injEq, Addr.mk.injEq] at e1
    obtain ⟨rfl, rfl, _⟩ := e1
    rw [Nat.zero_add] at x1 y1
    have hok := HD.out.ok _ (List.getElem_mem hkl)
    have HT : Hid (refT (m.take (k + 1)) = (if k = 0 then refT (m.take k) else refT (m.take k) ++ [44]) ++ labT (m[k]'hkl)) := by
     refine hid ?_
     exact refT_snoc hkl
    clear hQ kr
    generalize m[k]'hkl = x at x1 y1 hok HT
    obtain ⟨X, Y⟩ := x
    simp only at x1 y1
    obtain ⟨hX, hY⟩ : X.size ≤ 64 ∧ Y.size ≤ 64 := by
     simp only [labOk, nameOk, valOk, Bool.and_eq_true, decide_eq_true_eq] at hok
     exact ⟨hok.1.1.1.2, hok.2.2⟩
    have HQu := hid (fun W => rquote_any W Y (by omega))
    have hql := quote_len Y.data.toList
    rw [← Lib.size_eq] at hql
    generalize hR : mkB (34 :: (quoteL Y.data.toList ++ [34])) = R at HQu
    have hRs : R.size ≤ 200 := by rw [← hR, mkB_size]; simp; omega
    have HRd : Hid (R.data.toList = 34 :: (quoteL Y.data.toList ++ [34])) := by refine hid ?_; rw [← hR]
    clear hR hok
    obtain ⟨Q2, hQ2⟩ : ∃ Q2, Q2 = (if k = 0 then Q else Q ++ ⟨#[44]⟩) := ⟨_, rfl⟩
    have hQ2d : Q2.data.toList = (if k = 0 then refT (m.take k) else refT (m.take k) ++ [44]) := by
     rw [hQ2]
     split
     ·exact HQ.out
     ·rw [ByteArray.data_append, Array.toList_append, HQ.out]
    have hQ2s : Q2.size ≤ 5001 := by
     rw [hQ2]
     split
     ·omega
     ·rw [ByteArray.size_append]; show Q.size + 1 ≤ _; omega
    have HT2 : Hid ((Q2 ++ X ++ (⟨#[61]⟩ : ByteArray) ++ R).data.toList = refT (m.take (k + 1))) := by
     refine hid ?_
     rw [HT.out, ByteArray.data_append, ByteArray.data_append, ByteArray.data_append, Array.toList_append, Array.toList_append, Array.toList_append, HRd.out, hQ2d]
     simp [labT]
    have s1 : Q2.size + X.size ≤ 9223372036854775807 := by omega
    have s1' : ¬ ((9223372036854775807 : Int) < (Q2.size : Int) + (X.size : Int)) := by omega
    have s2' : ¬ ((9223372036854775807 : Int) < (Q2.size : Int) + (X.size : Int) + 1) := by omega
    have s3' : ¬ ((9223372036854775807 : Int) < (Q2.size : Int) + (X.size : Int) + 1 + (R.size : Int)) := by omega
    have s0' : ¬ ((9223372036854775807 : Int) < (Q.size : Int) + 1) := by omega
    have s3n : ¬ (9223372036854775807 < Q2.size + X.size + 1 + R.size) := by omega
    clear hQ2d HT
    by_cases hk0 : k = 0
    ·have HK0 := hid hk0
     rw [if_pos hk0] at hQ2
     subst hQ2
     have hkz : ¬ ((0 : Int) < (k : Int)) := by omega
     clear hk0
     go_wp2_with fail
     refine wp_region_noPanic ?_
     refine wp_region_last (L := 1000) (S := fun w' => w'.cell? ⟨g, k * 2, none⟩ = some (.string X) ∧ w'.cell? ⟨g, k * 2 + 1, none⟩ = some (.string Y)) (by kernel_rfl) ?_
     have hS : (fun w' : World => w'.cell? ⟨g, k * 2, none⟩ = some (.string X) ∧ w'.cell? ⟨g, k * 2 + 1, none⟩ = some (.string Y)) wr.drew := ⟨x1, y1⟩
     clear x1 y1
     refine wpAnyN_take (i := 0) (v := .string Q2) rfl (by kernel_rfl) (by kernel_rfl) (by kernel_rfl) (by decide) (by kernel_rfl) (fun _ _ _ h => h) (Or.inl ⟨by rfl, ?_⟩) hS ?_
     ·(intro w' hSw; obtain ⟨q1, q2⟩ := hSw; go_simp)
     go_frame
     refine wpAnyN_take (i := 1) (v := .slice (some ⟨g, 0, none⟩) M cap) rfl (by kernel_rfl) (by kernel_rfl) (by kernel_rfl) (by decide) (by kernel_rfl) (fun _ _ _ h => h) (Or.inl ⟨by rfl, ?_⟩) hS ?_
     ·(intro w' hSw; obtain ⟨q1, q2⟩ := hSw; go_simp)
     go_frame
     refine wpAnyN_take (i := 2) (v := .int .i64 (k : Int)) rfl (by kernel_rfl) (by kernel_rfl) (by kernel_rfl) (by decide) (by kernel_rfl) (fun _ _ _ h => h) (Or.inl ⟨by rfl, ?_⟩) hS ?_
     ·(intro w' hSw; obtain ⟨q1, q2⟩ := hSw; go_simp)
     go_frame
     refine wpAnyN_take (i := 3) (v := .pointer (some ⟨g, k * 2, none⟩)) rfl (by kernel_rfl) (by kernel_rfl) (by kernel_rfl) (by decide) (by kernel_rfl) (fun _ _ _ h => h) (Or.inl ⟨by rfl, ?_⟩) hS ?_
     ·(intro w' hSw; obtain ⟨q1, q2⟩ := hSw; go_simp)
     go_frame
     refine wpAnyN_take (i := 4) (v := .pointer (some ⟨g, k * 2, none⟩)) rfl (by kernel_rfl) (by kernel_rfl) (by kernel_rfl) (by decide) (by kernel_rfl) (fun _ _ _ h => h) (Or.inl ⟨by rfl, ?_⟩) hS ?_
     ·(intro w' hSw; obtain ⟨q1, q2⟩ := hSw; go_simp)
     go_frame
     refine wpAnyN_take (i := 5) (v := .string X) rfl (by kernel_rfl) (by kernel_rfl) (by kernel_rfl) (by decide) (by kernel_rfl) (fun _ _ _ h => h) (Or.inl ⟨by rfl, ?_⟩) hS ?_
     ·(intro w' hSw; obtain ⟨q1, q2⟩ := hSw; go_simp)
     go_frame
     refine wpAnyN_take (i := 6) (v := .string (Q2 ++ X)) rfl (by kernel_rfl) (by kernel_rfl) (by kernel_rfl) (by decide) (by kernel_rfl) (fun _ _ _ h => h) (Or.inl ⟨by rfl, ?_⟩) hS ?_
     ·(intro w' hSw; obtain ⟨q1, q2⟩ := hSw; go_simp)
     go_frame
     refine wpAnyN_take (i := 7) (v := .string (Q2 ++ X ++ ⟨#[61]⟩)) rfl (by kernel_rfl) (by kernel_rfl) (by kernel_rfl) (by decide) (by kernel_rfl) (fun _ _ _ h => h) (Or.inl ⟨by rfl, ?_⟩) hS ?_
     ·(intro w' hSw; obtain ⟨q1, q2⟩ := hSw; go_simp; omega)
     go_frame
     refine wpAnyN_take (i := 8) (v := .slice (some ⟨g, 0, none⟩) M cap) rfl (by kernel_rfl) (by kernel_rfl) (by kernel_rfl) (by decide) (by kernel_rfl) (fun _ _ _ h => h) (Or.inl ⟨by rfl, ?_⟩) hS ?_
     ·(intro w' hSw; obtain ⟨q1, q2⟩ := hSw; go_simp)
     go_frame
     refine wpAnyN_take (i := 9) (v := .int .i64 (k : Int)) rfl (by kernel_rfl) (by kernel_rfl) (by kernel_rfl) (by decide) (by kernel_rfl) (fun _ _ _ h => h) (Or.inl ⟨by rfl, ?_⟩) hS ?_
     ·(intro w' hSw; obtain ⟨q1, q2⟩ := hSw; go_simp)
     go_frame
     refine wpAnyN_take (i := 10) (v := .pointer (some ⟨g, k * 2, none⟩)) rfl (by kernel_rfl) (by kernel_rfl) (by kernel_rfl) (by decide) (by kernel_rfl) (fun _ _ _ h => h) (Or.inl ⟨by rfl, ?_⟩) hS ?_
     ·(intro w' hSw; obtain ⟨q1, q2⟩ := hSw; go_simp)
     go_frame
     refine wpAnyN_take (i := 11) (v := .pointer (some ⟨g, k * 2 + 1, none⟩)) rfl (by kernel_rfl) (by kernel_rfl) (by kernel_rfl) (by decide) (by kernel_rfl) (fun _ _ _ h => h) (Or.inl ⟨by rfl, ?_⟩) hS ?_
     ·(intro w' hSw; obtain ⟨q1, q2⟩ := hSw; go_simp)
     go_frame
     refine wpAnyN_take (i := 12) (v := .string Y) rfl (by kernel_rfl) (by kernel_rfl) (by kernel_rfl) (by decide) (by kernel_rfl) (fun _ _ _ h => h) (Or.inl ⟨by rfl, ?_⟩) hS ?_
     ·(intro w' hSw; obtain ⟨q1, q2⟩ := hSw; go_simp)
     go_frame
     refine wpAnyL_one (i := 13) (by kernel_rfl) rfl rfl ?_
     go_simp
     refine (HQu.out _).mono ?_
     rintro e w4 ⟨rfl, k4⟩
     have hS4 : (fun w' : World => w'.cell? ⟨g, k * 2, none⟩ = some (.string X) ∧ w'.cell? ⟨g, k * 2 + 1, none⟩ = some (.string Y)) w4 := ⟨kept_cell k4 hS.1, kept_cell k4 hS.2⟩
     refine ⟨hS4, ?_⟩
     (try go_frame)
     refine wpAnyL_one (i := 14) (by kernel_rfl) rfl rfl ?_
     go_simp
     (try rw [if_neg s3n])
     (try refine ⟨hS4, ?_⟩)
     (try go_frame)
     refine wpAnyL_one (i := 15) (by kernel_rfl) rfl rfl ?_
     go_simp
     (try refine ⟨hS4, ?_⟩)
     refine wpAnyN_done (by kernel_rfl) ?_
     refine NoPanic.normal ?_
     have HK4 := hid (show Kept w1 w4 from (HKr.out.drew).trans k4 (fun _ _ f => f))
     clear hS hS4 k4
     go_wp2_with fail
     refine ⟨⟨k + 1, _, by omega, by go_num, rfl, HT2.out, HK4.out⟩, ?_⟩
     simp [intOf]
     omega
    ·rw [if_neg hk0] at hQ2
     have hkz : (0 : Int) < (k : Int) := by omega
     have HQ2 := hid hQ2
     clear hk0 hQ2
     go_wp2_with fail
     rw [← HQ2.out]
     refine wp_region_noPanic ?_
     refine wp_region_last (L := 1000) (S := fun w' => w'.cell? ⟨g, k * 2, none⟩ = some (.string X) ∧ w'.cell? ⟨g, k * 2 + 1, none⟩ = some (.string Y)) (by kernel_rfl) ?_
     have hS : (fun w' : World => w'.cell? ⟨g, k * 2, none⟩ = some (.string X) ∧ w'.cell? ⟨g, k * 2 + 1, none⟩ = some (.string Y)) wr.drew := ⟨x1, y1⟩
     clear x1 y1
     refine wpAnyN_take (i := 0) (v := .string Q2) rfl (by kernel_rfl) (by kernel_rfl) (by kernel_rfl) (by decide) (by kernel_rfl) (fun _ _ _ h => h) (Or.inl ⟨by rfl, ?_⟩) hS ?_
     ·(intro w' hSw; obtain ⟨q1, q2⟩ := hSw; go_simp)
     go_frame
     refine wpAnyN_take (i := 1) (v := .slice (some ⟨g, 0, none⟩) M cap) rfl (by kernel_rfl) (by kernel_rfl) (by kernel_rfl) (by decide) (by kernel_rfl) (fun _ _ _ h => h) (Or.inl ⟨by rfl, ?_⟩) hS ?_
     ·(intro w' hSw; obtain ⟨q1, q2⟩ := hSw; go_simp)
     go_frame
     refine wpAnyN_take (i := 2) (v := .int .i64 (k : Int)) rfl (by kernel_rfl) (by kernel_rfl) (by kernel_rfl) (by decide) (by kernel_rfl) (fun _ _ _ h => h) (Or.inl ⟨by rfl, ?_⟩) hS ?_
     ·(intro w' hSw; obtain ⟨q1, q2⟩ := hSw; go_simp)
     go_frame
     refine wpAnyN_take (i := 3) (v := .pointer (some ⟨g, k * 2, none⟩)) rfl (by kernel_rfl) (by kernel_rfl) (by kernel_rfl) (by decide) (by kernel_rfl) (fun _ _ _ h => h) (Or.inl ⟨by rfl, ?_⟩) hS ?_
     ·(intro w' hSw; obtain ⟨q1, q2⟩ := hSw; go_simp)
     go_frame
     refine wpAnyN_take (i := 4) (v := .pointer (some ⟨g, k * 2, none⟩)) rfl (by kernel_rfl) (by kernel_rfl) (by kernel_rfl) (by decide) (by kernel_rfl) (fun _ _ _ h => h) (Or.inl ⟨by rfl, ?_⟩) hS ?_
     ·(intro w' hSw; obtain ⟨q1, q2⟩ := hSw; go_simp)
     go_frame
     refine wpAnyN_take (i := 5) (v := .string X) rfl (by kernel_rfl) (by kernel_rfl) (by kernel_rfl) (by decide) (by kernel_rfl) (fun _ _ _ h => h) (Or.inl ⟨by rfl, ?_⟩) hS ?_
     ·(intro w' hSw; obtain ⟨q1, q2⟩ := hSw; go_simp)
     go_frame
     refine wpAnyN_take (i := 6) (v := .string (Q2 ++ X)) rfl (by kernel_rfl) (by kernel_rfl) (by kernel_rfl) (by decide) (by kernel_rfl) (fun _ _ _ h => h) (Or.inl ⟨by rfl, ?_⟩) hS ?_
     ·(intro w' hSw; obtain ⟨q1, q2⟩ := hSw; go_simp)
     go_frame
     refine wpAnyN_take (i := 7) (v := .string (Q2 ++ X ++ ⟨#[61]⟩)) rfl (by kernel_rfl) (by kernel_rfl) (by kernel_rfl) (by decide) (by kernel_rfl) (fun _ _ _ h => h) (Or.inl ⟨by rfl, ?_⟩) hS ?_
     ·(intro w' hSw; obtain ⟨q1, q2⟩ := hSw; go_simp; omega)
     go_frame
     refine wpAnyN_take (i := 8) (v := .slice (some ⟨g, 0, none⟩) M cap) rfl (by kernel_rfl) (by kernel_rfl) (by kernel_rfl) (by decide) (by kernel_rfl) (fun _ _ _ h => h) (Or.inl ⟨by rfl, ?_⟩) hS ?_
     ·(intro w' hSw; obtain ⟨q1, q2⟩ := hSw; go_simp)
     go_frame
     refine wpAnyN_take (i := 9) (v := .int .i64 (k : Int)) rfl (by kernel_rfl) (by kernel_rfl) (by kernel_rfl) (by decide) (by kernel_rfl) (fun _ _ _ h => h) (Or.inl ⟨by rfl, ?_⟩) hS ?_
     ·(intro w' hSw; obtain ⟨q1, q2⟩ := hSw; go_simp)
     go_frame
     refine wpAnyN_take (i := 10) (v := .pointer (some ⟨g, k * 2, none⟩)) rfl (by kernel_rfl) (by kernel_rfl) (by kernel_rfl) (by decide) (by kernel_rfl) (fun _ _ _ h => h) (Or.inl ⟨by rfl, ?_⟩) hS ?_
     ·(intro w' hSw; obtain ⟨q1, q2⟩ := hSw; go_simp)
     go_frame
     refine wpAnyN_take (i := 11) (v := .pointer (some ⟨g, k * 2 + 1, none⟩)) rfl (by kernel_rfl) (by kernel_rfl) (by kernel_rfl) (by decide) (by kernel_rfl) (fun _ _ _ h => h) (Or.inl ⟨by rfl, ?_⟩) hS ?_
     ·(intro w' hSw; obtain ⟨q1, q2⟩ := hSw; go_simp)
     go_frame
     refine wpAnyN_take (i := 12) (v := .string Y) rfl (by kernel_rfl) (by kernel_rfl) (by kernel_rfl) (by decide) (by kernel_rfl) (fun _ _ _ h => h) (Or.inl ⟨by rfl, ?_⟩) hS ?_
     ·(intro w' hSw; obtain ⟨q1, q2⟩ := hSw; go_simp)
     go_frame
     refine wpAnyL_one (i := 13) (by kernel_rfl) rfl rfl ?_
     go_simp
     refine (HQu.out _).mono ?_
     rintro e w4 ⟨rfl, k4⟩
     have hS4 : (fun w' : World => w'.cell? ⟨g, k * 2, none⟩ = some (.string X) ∧ w'.cell? ⟨g, k * 2 + 1, none⟩ = some (.string Y)) w4 := ⟨kept_cell k4 hS.1, kept_cell k4 hS.2⟩
     refine ⟨hS4, ?_⟩
     (try go_frame)
     refine wpAnyL_one (i := 14) (by kernel_rfl) rfl rfl ?_
     go_simp
     (try rw [if_neg s3n])
     (try refine ⟨hS4, ?_⟩)
     (try go_frame)
     refine wpAnyL_one (i := 15) (by kernel_rfl) rfl rfl ?_
     go_simp
     (try refine ⟨hS4, ?_⟩)
     refine wpAnyN_done (by kernel_rfl) ?_
     refine NoPanic.normal ?_
     have HK4 := hid (show Kept w1 w4 from (HKr.out.drew).trans k4 (fun _ _ f => f))
     clear hS hS4 k4
     go_wp2_with fail
     refine ⟨⟨k + 1, _, by omega, by go_num, rfl, HT2.out, HK4.out⟩, ?_⟩
     simp [intOf]
     omega
   ·have e : k = M := by omega
    subst e
    have s0' : ¬ ((9223372036854775807 : Int) < (Q.size : Int) + 1) := by omega
    have HE : Hid (Q ++ (⟨#[125]⟩ : ByteArray) = mkB (textL m)) := by
     refine hid (bytes_inj ?_)
     rw [ByteArray.data_append, Array.toList_append, HQ.out]
     have : m.take k = m := List.take_of_length_le (by have := HMl.out; omega)
     rw [this]
     unfold refT textL
     rw [if_neg (fun h => by have := HMl.out; rw [h] at this; simp at this; omega)]
    clear hQ
    go_wp2
    go_ret
    refine ⟨?_, HK.out.trans HKr.out (fun _ _ f => f)⟩
    rw [Ht.out, ← HE.out]
    rfl
end Go.Proofs.YtllfanlhgnkcfaaGreatDoor.N
