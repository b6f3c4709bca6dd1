/-
  Nrtext, Nrpar, Nrparse.
-/
import Derived.Test.YthpkkhmplkmdnaaGreatDoorQ46
import Derived.Test.YthpkkhmplkmdnaaGreatDoorQ43
import Derived.Shelf.RegionOpenPlain
namespace Go.Proofs.YthpkkhmplkmdnaaGreatDoor.N
open Go.RowKit Go.Proofs.Lys
set_option linter.unusedVariables false
set_option linter.unusedSimpArgs false
theorem bytes_conv {w : World} {v : Value} {bs : List UInt8} (h : SrcOf w v (bs.map bV)) : (convert 28 9 v).run Tryz.prog w = .ok (.string (mkB bs)) w := by
 rcases h with ⟨rfl, e⟩ | ⟨a, c, rfl, hc⟩
 ·have : bs = [] := List.map_eq_nil_iff.1 e
  subst this
  exact run_convert_bytes_nil (P := Tryz.prog) w 28 5 Tryz.underlying28 Tryz.underlying5 0 0 9 Tryz.underlying9
 ·rw [List.length_map]
  refine run_convert_bytes_back (P := Tryz.prog) w 28 9 5 a c bs Tryz.underlying28 Tryz.underlying5 Tryz.underlying9 (fun j hj => ?_)
  exact hc j _ (by rw [List.getElem?_map, List.getElem?_eq_getElem hj]; rfl)
abbrev BytAt (w : World) (B : Nat) (v : Value) (l : List UInt8) : Prop := w.ownsRow B 5 1 v l.length (l.map bV)
theorem byt_step {w0 w : World} {v : Value} {l : List UInt8} (hown : BytAt w w0.heap.size v l) (hk : Kept w0 w) (q : List UInt8) (hq : 0 < q.length) (hl : l.length + q.length < 1000000) :
  ∃ g cap w', Hid ((Builtin.append_ #[28, 28] 0 #[v, .slice (some ⟨w.heap.size, 0, none⟩) q.length q.length]).run Tryz.prog (w.alloc (.cells (q.map bV).toArray 5)) = .ok (.slice (some ⟨g, 0, none⟩) (l.length + q.length) cap) w') ∧ BytAt w' w0.heap.size (.slice (some ⟨g, 0, none⟩) (l.length + q.length) cap) (l ++ q) ∧ Kept w0 w' := by
 have k1 : Kept w (w.alloc (.cells (q.map bV).toArray 5)) := (Only.refl _ w).alloc _
 have hs1 := hk.size
 have hsrc : SrcOf (w.alloc (.cells (q.map bV).toArray 5)) (.slice (some ⟨w.heap.size, 0, none⟩) q.length q.length) (q.map bV) := by
  refine .inr ⟨⟨w.heap.size, 0, none⟩, q.length, by rw [List.length_map], fun j u hu => ?_⟩
  rw [add_none, Nat.zero_add]
  exact (Blk.new w (q.map bV) 5).cell j hu
 obtain ⟨v', w', hr, h1, h2, h3⟩ := append_src (P := Tryz.prog) (base := w0.heap.size) Tryz.underlying28 Tryz.infoByteN rfl (by decide) (own_only hown k1 (fun _ _ f => f)) hsrc (bytes_one q) (by rw [List.length_map]; omega) (Nat.le_trans hs1 k1.size)
 obtain ⟨g, cap, rfl⟩ := own_some h1 (by rw [List.length_map]; omega)
 rw [List.length_map] at hr h1
 refine ⟨g, cap, w', hr, ?_, (hk.trans k1 (fun _ _ f => f)).grown h2 (fun j hj hlt => by have := (own_only hown k1 (fun _ _ f => f)).lt j hj; omega)⟩
 unfold BytAt
 rw [List.length_append, List.map_append]
 exact h1
theorem append_step {P : Program} {ops : Array Oper} {o : Oper} {a : Act} {w : World} {K : Act → World → Prop} {Q : Exit → Act → World → Prop} {E : Prop} (hgd : o.guard = none) (s x : Operand) (t : TypeId)
  (ho : o.op = .call { callee := .builtin .append, args := #[s, x], argTypes := #[t, t] }) {sv xv : Value} (hs : a.eval s = sv) (hx : a.eval x = xv) {v : Value} {w' : World}
  (hrun : Hid ((Builtin.append_ #[t, t] 0 #[sv, xv]).run P w = .ok v w')) (h : K (a.put o.dst v) w') : if Region.wanted o (yielded ops a.tmps) = true then Oper.wp P o a w K Q else E := by
 rw [if_pos (by simp [Region.wanted, hgd])]
 exact oper_append s x t ho hs hx hrun h
theorem quote_snoc (s : ByteArray) (k : Nat) (h : k < s.size) : quoteL (s.data.toList.take (k + 1)) = quoteL (s.data.toList.take k) ++ quoteB (s[k]'h) := by
 rw [take_snoc s k h, quoteL_app]
 simp [quoteL]
set_option maxRecDepth 100000 in
set_option maxHeartbeats 3200000 in
theorem rquote_any (w : World) (s : ByteArray) (hs : s.size ≤ 1000) :
  Calls Tryz.prog 61 #[.string s] w fun e w' => e = .returned (.string (mkB (34 :: (quoteL s.data.toList ++ [34])))) ∧ Kept w w' := by
 have HS0 : Hid (BytAt (w.alloc (.cells #[.int .u8 34] 5)) w.heap.size (.slice (some ⟨w.heap.size, 0, none⟩) 1 1) (34 :: quoteL (s.data.toList.take 0)) ∧ Kept w (w.alloc (.cells #[.int .u8 34] 5))) := by
  refine ⟨?_, (Only.refl _ w).alloc _⟩
  have := World.ownsRow_lit (base := w.heap.size) (e := 5) (size := 1) w #[.int .u8 34] 1 (Nat.le_refl _) (by unfold maxLen; omega) rfl
  exact this
 have mixed : Tryz.prog.follows Departure.mixedOrders = true := by kernel_rfl
 go_enter Tryz.func61, Tryz.ntmps61
 go_wp2
 generalize w.alloc (.cells #[.int .u8 34] 5) = w0 at HS0 ⊢
 go_loopw [3, 4] (fun b i wr => ∃ (k : Nat), k ≤ s.size ∧ i = .int .i64 (k : Int) ∧ BytAt wr w.heap.size b (34 :: quoteL (s.data.toList.take k)) ∧ Kept w wr) (fun _ i _ => s.size - (intOf i).toNat)
 case atStart => exact ⟨0, by omega, rfl, HS0.out⟩
 case round =>
  obtain ⟨k, hk, rfl, hat, kr⟩ := hrel
  obtain ⟨oa, oc, rfl⟩ := own_slice hat
  have hql := quote_len (s.data.toList.take k)
  rw [List.length_take] at hql
  have hln : (34 :: quoteL (s.data.toList.take k)).length ≤ 1 + 3 * s.size := by simp; omega
  have HA := hid hat
  have HK := hid kr
  by_cases hlt : k < s.size
  ·have HQ := hid (quote_snoc s k hlt)
   have hcl := (s[k]'hlt).toNat_lt
   cases hsh : shownB (s[k]'hlt) with
   | true =>
    have hq1 : quoteB (s[k]'hlt) = [s[k]'hlt] := by unfold quoteB; rw [hsh]; rfl
    obtain ⟨g, cap, w4, Hr, hat4, hk4⟩ := byt_step (w0 := w) hat kr [s[k]'hlt] (by simp) (by simp only [List.length_singleton]; omega)
    simp only [List.map_cons, List.map_nil, List.length_singleton, bV] at Hr hat4
    rw [List.cons_append, ← hq1, ← HQ.out] at hat4
    have HA4 := hid hat4
    have HK4 := hid hk4
    clear hat4 hk4 hat kr hq1
    simp only [shownB, Bool.and_eq_true, decide_eq_true_eq] at hsh
    generalize (34 :: quoteL (s.data.toList.take k)).length = N at Hr HA4 hln ⊢
    generalize hc : s[k]'hlt = c at Hr hsh hcl
    have p1 : ¬ ((c.toNat : Int) < 32) := by omega
    have p2 : ¬ ((126 : Int) < (c.toNat : Int)) := by omega
    have p3 : ((c.toNat : Int) == 34) = false := by simp; omega
    have p4 : ((c.toNat : Int) == 92) = false := by simp; omega
    clear HA HQ hsh
    go_wp2_with (at_builtin; refine wpList_append_run rfl _ _ _ rfl rfl rfl Hr ?_)
    refine ⟨⟨k + 1, by omega, by go_num, HA4.out, HK4.out⟩, ?_⟩
    simp [intOf]
    omega
   | false =>
    have hq1 : quoteB (s[k]'hlt) = [92, hexD ((s[k]'hlt).toNat / 16), hexD ((s[k]'hlt).toNat % 16)] := by unfold quoteB; rw [hsh]; rfl
    obtain ⟨g, cap, w4, Hr, hat4, hk4⟩ := byt_step (w0 := w) (w := wr.drew) (own_only hat ((Only.refl _ wr).drew) (fun _ _ f => f)) kr.drew [92, hexD ((s[k]'hlt).toNat / 16), hexD ((s[k]'hlt).toNat % 16)] (by simp) (by simp only [List.length_cons, List.length_nil] at hln ⊢; omega)
    simp only [List.map_cons, List.map_nil, bV] at Hr
    rw [List.cons_append, ← hq1, ← HQ.out] at hat4
    have hl3 : ([92, hexD ((s[k]'hlt).toNat / 16), hexD ((s[k]'hlt).toNat % 16)] : List UInt8).length = 3 := rfl
    rw [hl3] at Hr
    rw [hq1, hl3] at hat4
    have HA4 := hid hat4
    have HK4 := hid hk4
    clear hat4 hk4 hat kr hq1 hl3
    have hns : ¬ (32 ≤ (s[k]'hlt).toNat ∧ (s[k]'hlt).toNat ≤ 126 ∧ (s[k]'hlt).toNat ≠ 34 ∧ (s[k]'hlt).toNat ≠ 92) := by
     rintro ⟨q1, q2, q3, q4⟩
     have : shownB (s[k]'hlt) = true := by
      simp only [shownB, Bool.and_eq_true, decide_eq_true_eq]
      exact ⟨⟨⟨q1, q2⟩, q3⟩, q4⟩
     rw [hsh] at this
     cases this
    generalize (34 :: quoteL (s.data.toList.take k)).length = N at Hr HA4 hln ⊢
    generalize hc : s[k]'hlt = c at Hr hns hcl
    have d1 := digits_at (c.toNat / 16) (by omega)
    have d2 := digits_at (c.toNat % 16) (by omega)
    clear HA HQ hsh
    have q0 : IntKind.u8.wrap ((c.toNat : Int) / 16) = ((c.toNat / 16 : Nat) : Int) := by
     simp [IntKind.wrap, IntKind.bits, IntKind.signed]
     omega
    have a0 : (0 : Int) ≤ (c.toNat : Int) / 16 := by omega
    have a1 : (c.toNat : Int) / 16 < 16 := by omega
    have a2 : ((c.toNat : Int) / 16).toNat = c.toNat / 16 := by omega
    have m0 : (c.toNat : Int).tmod 16 = (c.toNat : Int) % 16 := Int.tmod_eq_emod_of_nonneg (by omega)
    have b0 : (0 : Int) ≤ (c.toNat : Int) % 16 := by omega
    have b1 : (c.toNat : Int) % 16 < 16 := by omega
    have b2 : ((c.toNat : Int) % 16).toNat = c.toNat % 16 := by omega
    by_cases z1 : c.toNat < 32
    ·have p1 : (c.toNat : Int) < 32 := by omega
     go_wp2_with fail
     go_region_law_o (refine append_step rfl _ _ 28 rfl (by simp [Act.eval, Act.put]) (by simp [Act.eval, Act.put]) Hr ?_)
     all_goals go_wp2_with fail
     all_goals refine ⟨⟨k + 1, by omega, by go_num, HA4.out, HK4.out⟩, ?_⟩
     all_goals simp [intOf]
     all_goals omega
    by_cases z2 : 126 < c.toNat
    ·have p1 : ¬ ((c.toNat : Int) < 32) := by omega
     have p2 : (126 : Int) < (c.toNat : Int) := by omega
     go_wp2_with fail
     go_region_law_o (refine append_step rfl _ _ 28 rfl (by simp [Act.eval, Act.put]) (by simp [Act.eval, Act.put]) Hr ?_)
     all_goals go_wp2_with fail
     all_goals refine ⟨⟨k + 1, by omega, by go_num, HA4.out, HK4.out⟩, ?_⟩
     all_goals simp [intOf]
     all_goals omega
    have p1 : ¬ ((c.toNat : Int) < 32) := by omega
    have p2 : ¬ ((126 : Int) < (c.toNat : Int)) := by omega
    by_cases z3 : c.toNat = 34
    ·have p3 : ((c.toNat : Int) == 34) = true := by simp; omega
     have HZ := hid z3
     clear z3 hns
     go_wp2_with fail
     go_region_law_o (refine append_step rfl _ _ 28 rfl (by simp [Act.eval, Act.put]) (by simp [Act.eval, Act.put]) Hr ?_)
     all_goals go_wp2_with fail
     all_goals refine ⟨⟨k + 1, by omega, by go_num, HA4.out, HK4.out⟩, ?_⟩
     all_goals simp [intOf]
     all_goals omega
    have p3 : ((c.toNat : Int) == 34) = false := by simp; omega
    have p4 : ((c.toNat : Int) == 92) = true := by simp; omega
    clear hns
    go_wp2_with fail
    go_region_law_o (refine append_step rfl _ _ 28 rfl (by simp [Act.eval, Act.put]) (by simp [Act.eval, Act.put]) Hr ?_)
    all_goals go_wp2_with fail
    all_goals refine ⟨⟨k + 1, by omega, by go_num, HA4.out, HK4.out⟩, ?_⟩
    all_goals simp [intOf]
    all_goals omega
  ·have e : k = s.size := by omega
   subst e
   have htk : s.data.toList.take s.size = s.data.toList := List.take_of_length_le (by rw [← Lib.size_eq]; omega)
   rw [htk] at hat hln ⊢
   obtain ⟨g, cap, w4, Hr, hat4, hk4⟩ := byt_step (w0 := w) hat kr [34] (by simp) (by simp only [List.length_singleton]; omega)
   have hcv := bytes_conv (own_src hat4)
   have HE : Hid (34 :: quoteL s.data.toList ++ [34] = 34 :: (quoteL s.data.toList ++ [34])) := rfl
   rw [HE.out] at hcv
   simp only [List.map_cons, List.map_nil, List.length_singleton, bV] at Hr hcv
   have HK4 := hid hk4
   clear hat4 hk4 hat kr htk HA
   generalize (34 :: quoteL s.data.toList).length = N at Hr hln hcv ⊢
   generalize hR : mkB (34 :: (quoteL s.data.toList ++ [34])) = R at hcv
   have HRR := hid hR
   clear hR
   go_wp2_with (at_builtin; refine wpList_append_run rfl _ _ _ rfl rfl rfl Hr ?_)
   go_ret
   exact ⟨by rw [HRR.out]; rfl, HK4.out⟩
def refT (l : Labs) : List UInt8 := if l = [] then [123] else accT l
theorem refT_snoc {m : Labs} {k : Nat} (hk : k < m.length) : refT (m.take (k + 1)) = (if k = 0 then refT (m.take k) else refT (m.take k) ++ [44]) ++ labT m[k] := by
 rw [← List.take_append_getElem hk]
 unfold refT
 rw [if_neg (fun e => by have := congrArg List.length e; rw [List.length_append] at this; simp at this), accT_snoc]
 by_cases h : k = 0
 ·subst h
  simp [accT]
 ·have hne : m.take k ≠ [] := fun e => by
   have := congrArg List.length e
   rw [List.length_take, List.length_nil] at this
   omega
  rw [if_neg hne, if_neg h, if_neg hne]
  simp
set_option maxRecDepth 100000 in
set_option maxHeartbeats 3200000 in
theorem rtext_any (w : World) (v : Value) (l : Labs) (hs : LabSrc w v l) (hl : l.length ≤ 100000) (hB : Small l) :
  Calls Tryz.prog 31 #[v] w fun e w' => e = .returned (.string (txtB l)) ∧ Kept w w' := by
 have HM := hid (rmake_any w v l hs hl hB)
 obtain ⟨a1, c1, rfl⟩ := hs.len
 clear hs
 cases hm : makeL l with
 | none =>
  have Ht : Hid (txtB l = ⟨#[]⟩) := by refine hid ?_; unfold txtB; rw [hm]
  rw [hm] at HM
  go_enter Tryz.func31, Tryz.ntmps31
  go_wp2_with (go_at_call 35; refine HM.out.mono ?_)
  rintro e w1 ⟨⟨u, n, rfl, rfl, rfl⟩, k1⟩
  go_wp2
  go_ret
  exact ⟨by rw [Ht.out]; rfl, k1⟩
 | some m =>
  have Ht : Hid (txtB l = mkB (textL m)) := by refine hid ?_; unfold txtB; rw [hm]
  have HD := hid (makeL_made hm)
  rw [hm] at HM
  clear hm
  go_enter Tryz.func31, Tryz.ntmps31
  go_wp2_with (go_at_call 35; refine HM.out.mono ?_)
  rintro e w1 ⟨⟨u, n, rfl, rfl, hat⟩, k1⟩
  obtain ⟨g, cap, rfl⟩ := ownN_some hat HD.out.len
  have HA := hid hat
  have HK := hid k1
  have hL16 := HD.out.len16
  have hL0 := HD.out.len
  clear hat k1
  obtain ⟨M, hM⟩ : ∃ M, m.length = M := ⟨_, rfl⟩
  rw [hM] at HA hL16 hL0 ⊢
  have HMl := hid hM
  clear hM
  go_wp2
  go_loopw [5, 6] (fun q i wr => ∃ (k : Nat) (Q : ByteArray), k ≤ M ∧ i = .int .i64 (k : Int) ∧ q = .string Q ∧ Q.data.toList = refT (m.take k) ∧ Kept w1 wr) (fun _ i _ => M - (intOf i).toNat)
  case atStart => exact ⟨0, _, by omega, rfl, rfl, rfl, Only.refl _ _⟩
  case round =>
   obtain ⟨k, Q, hk, rfl, rfl, hQ, kr⟩ := hrel
   have HQ := hid hQ
   have HKr := hid kr
   have hQs : Q.size ≤ 5000 := by
    rw [Lib.size_eq, hQ]
    have h1 := accT_len (l := m.take k) (fun x hx => HD.out.ok x (List.mem_of_mem_take hx))
    have h2 : (m.take k).length ≤ 16 := by rw [List.length_take]; omega
    unfold refT
    split
    ·simp
    ·omega
   by_cases hlt : k < M
   ·have hkl : k < m.length := by have := HMl.out; omega
    obtain ⟨b1, o1, e1, x1, y1⟩ := (LabAt.src (ownN_stay (by have := HA.out; rw [← HMl.out] at this; exact this) kr)).cell rfl k hkl
    simp only [Option.some.injEq, Addr.mk.injEq] at e1
    obtain ⟨rfl, rfl, _⟩ := e1
    rw [Nat.zero_add] at x1 y1
    have hok := HD.out.ok _ (List.getElem_mem hkl)
    have HT : Hid (refT (m.take (k + 1)) = (if k = 0 then refT (m.take k) else refT (m.take k) ++ [44]) ++ labT (m[k]'hkl)) := by
     refine hid ?_
     exact refT_snoc hkl
    clear hQ kr
    generalize m[k]'hkl = x at x1 y1 hok HT
    obtain ⟨X, Y⟩ := x
    simp only at x1 y1
    obtain ⟨hX, hY⟩ : X.size ≤ 64 ∧ Y.size ≤ 64 := by
     simp only [labOk, nameOk, valOk, Bool.and_eq_true, decide_eq_true_eq] at hok
     exact ⟨hok.1.1.1.2, hok.2.2⟩
    have HQu := hid (fun W => rquote_any W Y (by omega))
    have hql := quote_len Y.data.toList
    rw [← Lib.size_eq] at hql
    generalize hR : mkB (34 :: (quoteL Y.data.toList ++ [34])) = R at HQu
    have hRs : R.size ≤ 200 := by rw [← hR, mkB_size]; simp; omega
    have HRd : Hid (R.data.toList = 34 :: (quoteL Y.data.toList ++ [34])) := by refine hid ?_; rw [← hR]
    clear hR hok
    obtain ⟨Q2, hQ2⟩ : ∃ Q2, Q2 = (if k = 0 then Q else Q ++ ⟨#[44]⟩) := ⟨_, rfl⟩
    have hQ2d : Q2.data.toList = (if k = 0 then refT (m.take k) else refT (m.take k) ++ [44]) := by
     rw [hQ2]
     split
     ·exact HQ.out
     ·rw [ByteArray.data_append, Array.toList_append, HQ.out]
    have hQ2s : Q2.size ≤ 5001 := by
     rw [hQ2]
     split
     ·omega
     ·rw [ByteArray.size_append]; show Q.size + 1 ≤ _; omega
    have HT2 : Hid ((Q2 ++ X ++ (⟨#[61]⟩ : ByteArray) ++ R).data.toList = refT (m.take (k + 1))) := by
     refine hid ?_
     rw [HT.out, ByteArray.data_append, ByteArray.data_append, ByteArray.data_append, Array.toList_append, Array.toList_append, Array.toList_append, HRd.out, hQ2d]
     simp [labT]
    have s1 : Q2.size + X.size ≤ 9223372036854775807 := by omega
    have s1' : ¬ ((9223372036854775807 : Int) < (Q2.size : Int) + (X.size : Int)) := by omega
    have s2' : ¬ ((9223372036854775807 : Int) < (Q2.size : Int) + (X.size : Int) + 1) := by omega
    have s3' : ¬ ((9223372036854775807 : Int) < (Q2.size : Int) + (X.size : Int) + 1 + (R.size : Int)) := by omega
    have s0' : ¬ ((9223372036854775807 : Int) < (Q.size : Int) + 1) := by omega
    have s3n : ¬ (9223372036854775807 < Q2.size + X.size + 1 + R.size) := by omega
    clear hQ2d HT
    by_cases hk0 : k = 0
    ·have HK0 := hid hk0
     rw [if_pos hk0] at hQ2
     subst hQ2
     have hkz : ¬ ((0 : Int) < (k : Int)) := by omega
     clear hk0
     go_wp2_with fail
     refine wp_region_noPanic ?_
     refine wp_region_last (L := 1000) (S := fun w' => w'.cell? ⟨g, k * 2, none⟩ = some (.string X) ∧ w'.cell? ⟨g, k * 2 + 1, none⟩ = some (.string Y)) (by kernel_rfl) ?_
     have hS : (fun w' : World => w'.cell? ⟨g, k * 2, none⟩ = some (.string X) ∧ w'.cell? ⟨g, k * 2 + 1, none⟩ = some (.string Y)) wr.drew := ⟨x1, y1⟩
     clear x1 y1
     refine wpAnyN_take (i := 0) (v := .string Q2) rfl (by kernel_rfl) (by kernel_rfl) (by kernel_rfl) (by decide) (by kernel_rfl) (fun _ _ _ h => h) (Or.inl ⟨by rfl, ?_⟩) hS ?_
     ·(intro w' hSw; obtain ⟨q1, q2⟩ := hSw; go_simp)
     go_frame
     refine wpAnyN_take (i := 1) (v := .slice (some ⟨g, 0, none⟩) M cap) rfl (by kernel_rfl) (by kernel_rfl) (by kernel_rfl) (by decide) (by kernel_rfl) (fun _ _ _ h => h) (Or.inl ⟨by rfl, ?_⟩) hS ?_
     ·(intro w' hSw; obtain ⟨q1, q2⟩ := hSw; go_simp)
     go_frame
     refine wpAnyN_take (i := 2) (v := .int .i64 (k : Int)) rfl (by kernel_rfl) (by kernel_rfl) (by kernel_rfl) (by decide) (by kernel_rfl) (fun _ _ _ h => h) (Or.inl ⟨by rfl, ?_⟩) hS ?_
     ·(intro w' hSw; obtain ⟨q1, q2⟩ := hSw; go_simp)
     go_frame
     refine wpAnyN_take (i := 3) (v := .pointer (some ⟨g, k * 2, none⟩)) rfl (by kernel_rfl) (by kernel_rfl) (by kernel_rfl) (by decide) (by kernel_rfl) (fun _ _ _ h => h) (Or.inl ⟨by rfl, ?_⟩) hS ?_
     ·(intro w' hSw; obtain ⟨q1, q2⟩ := hSw; go_simp)
     go_frame
     refine wpAnyN_take (i := 4) (v := .pointer (some ⟨g, k * 2, none⟩)) rfl (by kernel_rfl) (by kernel_rfl) (by kernel_rfl) (by decide) (by kernel_rfl) (fun _ _ _ h => h) (Or.inl ⟨by rfl, ?_⟩) hS ?_
     ·(intro w' hSw; obtain ⟨q1, q2⟩ := hSw; go_simp)
     go_frame
     refine wpAnyN_take (i := 5) (v := .string X) rfl (by kernel_rfl) (by kernel_rfl) (by kernel_rfl) (by decide) (by kernel_rfl) (fun _ _ _ h => h) (Or.inl ⟨by rfl, ?_⟩) hS ?_
     ·(intro w' hSw; obtain ⟨q1, q2⟩ := hSw; go_simp)
     go_frame
     refine wpAnyN_take (i := 6) (v := .string (Q2 ++ X)) rfl (by kernel_rfl) (by kernel_rfl) (by kernel_rfl) (by decide) (by kernel_rfl) (fun _ _ _ h => h) (Or.inl ⟨by rfl, ?_⟩) hS ?_
     ·(intro w' hSw; obtain ⟨q1, q2⟩ := hSw; go_simp)
     go_frame
     refine wpAnyN_take (i := 7) (v := .string (Q2 ++ X ++ ⟨#[61]⟩)) rfl (by kernel_rfl) (by kernel_rfl) (by kernel_rfl) (by decide) (by kernel_rfl) (fun _ _ _ h => h) (Or.inl ⟨by rfl, ?_⟩) hS ?_
     ·(intro w' hSw; obtain ⟨q1, q2⟩ := hSw; go_simp; omega)
     go_frame
     refine wpAnyN_take (i := 8) (v := .slice (some ⟨g, 0, none⟩) M cap) rfl (by kernel_rfl) (by kernel_rfl) (by kernel_rfl) (by decide) (by kernel_rfl) (fun _ _ _ h => h) (Or.inl ⟨by rfl, ?_⟩) hS ?_
     ·(intro w' hSw; obtain ⟨q1, q2⟩ := hSw; go_simp)
     go_frame
     refine wpAnyN_take (i := 9) (v := .int .i64 (k : Int)) rfl (by kernel_rfl) (by kernel_rfl) (by kernel_rfl) (by decide) (by kernel_rfl) (fun _ _ _ h => h) (Or.inl ⟨by rfl, ?_⟩) hS ?_
     ·(intro w' hSw; obtain ⟨q1, q2⟩ := hSw; go_simp)
     go_frame
     refine wpAnyN_take (i := 10) (v := .pointer (some ⟨g, k * 2, none⟩)) rfl (by kernel_rfl) (by kernel_rfl) (by kernel_rfl) (by decide) (by kernel_rfl) (fun _ _ _ h => h) (Or.inl ⟨by rfl, ?_⟩) hS ?_
     ·(intro w' hSw; obtain ⟨q1, q2⟩ := hSw; go_simp)
     go_frame
     refine wpAnyN_take (i := 11) (v := .pointer (some ⟨g, k * 2 + 1, none⟩)) rfl (by kernel_rfl) (by kernel_rfl) (by kernel_rfl) (by decide) (by kernel_rfl) (fun _ _ _ h => h) (Or.inl ⟨by rfl, ?_⟩) hS ?_
     ·(intro w' hSw; obtain ⟨q1, q2⟩ := hSw; go_simp)
     go_frame
     refine wpAnyN_take (i := 12) (v := .string Y) rfl (by kernel_rfl) (by kernel_rfl) (by kernel_rfl) (by decide) (by kernel_rfl) (fun _ _ _ h => h) (Or.inl ⟨by rfl, ?_⟩) hS ?_
     ·(intro w' hSw; obtain ⟨q1, q2⟩ := hSw; go_simp)
     go_frame
     refine wpAnyL_one (i := 13) (by kernel_rfl) rfl rfl ?_
     go_simp
     refine (HQu.out _).mono ?_
     rintro e w4 ⟨rfl, k4⟩
     have hS4 : (fun w' : World => w'.cell? ⟨g, k * 2, none⟩ = some (.string X) ∧ w'.cell? ⟨g, k * 2 + 1, none⟩ = some (.string Y)) w4 := ⟨kept_cell k4 hS.1, kept_cell k4 hS.2⟩
     refine ⟨hS4, ?_⟩
     (try go_frame)
     refine wpAnyL_one (i := 14) (by kernel_rfl) rfl rfl ?_
     go_simp
     (try rw [if_neg s3n])
     (try refine ⟨hS4, ?_⟩)
     (try go_frame)
     refine wpAnyL_one (i := 15) (by kernel_rfl) rfl rfl ?_
     go_simp
     (try refine ⟨hS4, ?_⟩)
     refine wpAnyN_done (by kernel_rfl) ?_
     refine NoPanic.normal ?_
     have HK4 := hid (show Kept w1 w4 from (HKr.out.drew).trans k4 (fun _ _ f => f))
     clear hS hS4 k4
     go_wp2_with fail
     refine ⟨⟨k + 1, _, by omega, by go_num, rfl, HT2.out, HK4.out⟩, ?_⟩
     simp [intOf]
     omega
    ·rw [if_neg hk0] at hQ2
     have hkz : (0 : Int) < (k : Int) := by omega
     have HQ2 := hid hQ2
     clear hk0 hQ2
     go_wp2_with fail
     rw [← HQ2.out]
     refine wp_region_noPanic ?_
     refine wp_region_last (L := 1000) (S := fun w' => w'.cell? ⟨g, k * 2, none⟩ = some (.string X) ∧ w'.cell? ⟨g, k * 2 + 1, none⟩ = some (.string Y)) (by kernel_rfl) ?_
     have hS : (fun w' : World => w'.cell? ⟨g, k * 2, none⟩ = some (.string X) ∧ w'.cell? ⟨g, k * 2 + 1, none⟩ = some (.string Y)) wr.drew := ⟨x1, y1⟩
     clear x1 y1
     refine wpAnyN_take (i := 0) (v := .string Q2) rfl (by kernel_rfl) (by kernel_rfl) (by kernel_rfl) (by decide) (by kernel_rfl) (fun _ _ _ h => h) (Or.inl ⟨by rfl, ?_⟩) hS ?_
     ·(intro w' hSw; obtain ⟨q1, q2⟩ := hSw; go_simp)
     go_frame
     refine wpAnyN_take (i := 1) (v := .slice (some ⟨g, 0, none⟩) M cap) rfl (by kernel_rfl) (by kernel_rfl) (by kernel_rfl) (by decide) (by kernel_rfl) (fun _ _ _ h => h) (Or.inl ⟨by rfl, ?_⟩) hS ?_
     ·(intro w' hSw; obtain ⟨q1, q2⟩ := hSw; go_simp)
     go_frame
     refine wpAnyN_take (i := 2) (v := .int .i64 (k : Int)) rfl (by kernel_rfl) (by kernel_rfl) (by kernel_rfl) (by decide) (by kernel_rfl) (fun _ _ _ h => h) (Or.inl ⟨by rfl, ?_⟩) hS ?_
     ·(intro w' hSw; obtain ⟨q1, q2⟩ := hSw; go_simp)
     go_frame
     refine wpAnyN_take (i := 3) (v := .pointer (some ⟨g, k * 2, none⟩)) rfl (by kernel_rfl) (by kernel_rfl) (by kernel_rfl) (by decide) (by kernel_rfl) (fun _ _ _ h => h) (Or.inl ⟨by rfl, ?_⟩) hS ?_
     ·(intro w' hSw; obtain ⟨q1, q2⟩ := hSw; go_simp)
     go_frame
     refine wpAnyN_take (i := 4) (v := .pointer (some ⟨g, k * 2, none⟩)) rfl (by kernel_rfl) (by kernel_rfl) (by kernel_rfl) (by decide) (by kernel_rfl) (fun _ _ _ h => h) (Or.inl ⟨by rfl, ?_⟩) hS ?_
     ·(intro w' hSw; obtain ⟨q1, q2⟩ := hSw; go_simp)
     go_frame
     refine wpAnyN_take (i := 5) (v := .string X) rfl (by kernel_rfl) (by kernel_rfl) (by kernel_rfl) (by decide) (by kernel_rfl) (fun _ _ _ h => h) (Or.inl ⟨by rfl, ?_⟩) hS ?_
     ·(intro w' hSw; obtain ⟨q1, q2⟩ := hSw; go_simp)
     go_frame
     refine wpAnyN_take (i := 6) (v := .string (Q2 ++ X)) rfl (by kernel_rfl) (by kernel_rfl) (by kernel_rfl) (by decide) (by kernel_rfl) (fun _ _ _ h => h) (Or.inl ⟨by rfl, ?_⟩) hS ?_
     ·(intro w' hSw; obtain ⟨q1, q2⟩ := hSw; go_simp)
     go_frame
     refine wpAnyN_take (i := 7) (v := .string (Q2 ++ X ++ ⟨#[61]⟩)) rfl (by kernel_rfl) (by kernel_rfl) (by kernel_rfl) (by decide) (by kernel_rfl) (fun _ _ _ h => h) (Or.inl ⟨by rfl, ?_⟩) hS ?_
     ·(intro w' hSw; obtain ⟨q1, q2⟩ := hSw; go_simp; omega)
     go_frame
     refine wpAnyN_take (i := 8) (v := .slice (some ⟨g, 0, none⟩) M cap) rfl (by kernel_rfl) (by kernel_rfl) (by kernel_rfl) (by decide) (by kernel_rfl) (fun _ _ _ h => h) (Or.inl ⟨by rfl, ?_⟩) hS ?_
     ·(intro w' hSw; obtain ⟨q1, q2⟩ := hSw; go_simp)
     go_frame
     refine wpAnyN_take (i := 9) (v := .int .i64 (k : Int)) rfl (by kernel_rfl) (by kernel_rfl) (by kernel_rfl) (by decide) (by kernel_rfl) (fun _ _ _ h => h) (Or.inl ⟨by rfl, ?_⟩) hS ?_
     ·(intro w' hSw; obtain ⟨q1, q2⟩ := hSw; go_simp)
     go_frame
     refine wpAnyN_take (i := 10) (v := .pointer (some ⟨g, k * 2, none⟩)) rfl (by kernel_rfl) (by kernel_rfl) (by kernel_rfl) (by decide) (by kernel_rfl) (fun _ _ _ h => h) (Or.inl ⟨by rfl, ?_⟩) hS ?_
     ·(intro w' hSw; obtain ⟨q1, q2⟩ := hSw; go_simp)
     go_frame
     refine wpAnyN_take (i := 11) (v := .pointer (some ⟨g, k * 2 + 1, none⟩)) rfl (by kernel_rfl) (by kernel_rfl) (by kernel_rfl) (by decide) (by kernel_rfl) (fun _ _ _ h => h) (Or.inl ⟨by rfl, ?_⟩) hS ?_
     ·(intro w' hSw; obtain ⟨q1, q2⟩ := hSw; go_simp)
     go_frame
     refine wpAnyN_take (i := 12) (v := .string Y) rfl (by kernel_rfl) (by kernel_rfl) (by kernel_rfl) (by decide) (by kernel_rfl) (fun _ _ _ h => h) (Or.inl ⟨by rfl, ?_⟩) hS ?_
     ·(intro w' hSw; obtain ⟨q1, q2⟩ := hSw; go_simp)
     go_frame
     refine wpAnyL_one (i := 13) (by kernel_rfl) rfl rfl ?_
     go_simp
     refine (HQu.out _).mono ?_
     rintro e w4 ⟨rfl, k4⟩
     have hS4 : (fun w' : World => w'.cell? ⟨g, k * 2, none⟩ = some (.string X) ∧ w'.cell? ⟨g, k * 2 + 1, none⟩ = some (.string Y)) w4 := ⟨kept_cell k4 hS.1, kept_cell k4 hS.2⟩
     refine ⟨hS4, ?_⟩
     (try go_frame)
     refine wpAnyL_one (i := 14) (by kernel_rfl) rfl rfl ?_
     go_simp
     (try rw [if_neg s3n])
     (try refine ⟨hS4, ?_⟩)
     (try go_frame)
     refine wpAnyL_one (i := 15) (by kernel_rfl) rfl rfl ?_
     go_simp
     (try refine ⟨hS4, ?_⟩)
     refine wpAnyN_done (by kernel_rfl) ?_
     refine NoPanic.normal ?_
     have HK4 := hid (show Kept w1 w4 from (HKr.out.drew).trans k4 (fun _ _ f => f))
     clear hS hS4 k4
     go_wp2_with fail
     refine ⟨⟨k + 1, _, by omega, by go_num, rfl, HT2.out, HK4.out⟩, ?_⟩
     simp [intOf]
     omega
   ·have e : k = M := by omega
    subst e
    have s0' : ¬ ((9223372036854775807 : Int) < (Q.size : Int) + 1) := by omega
    have HE : Hid (Q ++ (⟨#[125]⟩ : ByteArray) = mkB (textL m)) := by
     refine hid (bytes_inj ?_)
     rw [ByteArray.data_append, Array.toList_append, HQ.out]
     have : m.take k = m := List.take_of_length_le (by have := HMl.out; omega)
     rw [this]
     unfold refT textL
     rw [if_neg (fun h => by have := HMl.out; rw [h] at this; simp at this; omega)]
    clear hQ
    go_wp2
    go_ret
    refine ⟨?_, HK.out.trans HKr.out (fun _ _ f => f)⟩
    rw [Ht.out, ← HE.out]
    rfl
end Go.Proofs.YthpkkhmplkmdnaaGreatDoor.N
namespace Go.Proofs.YthpkkhmplkmdnaaGreatDoor.N
open Go.RowKit Go.Proofs.Lys
set_option linter.unusedVariables false
set_option linter.unusedSimpArgs false
def hexI (c : UInt8) : Int := match hexV c with
 | some n => (n : Int)
 | none => -1
set_option maxRecDepth 100000 in
theorem rhex_any (w : World) (c : UInt8) : Calls Tryz.prog 102 #[.int .u8 c.toNat] w fun e w' => e = .returned (.int .i64 (hexI c)) ∧ w' = w := by
 have hcl := c.toNat_lt
 by_cases h1 : 48 ≤ c.toNat ∧ c.toNat ≤ 57
 ·have HV : Hid (hexI c = (c.toNat : Int) - 48) := by refine hid ?_; unfold hexI hexV; rw [if_pos h1]; simp; omega
  obtain ⟨p1, p2⟩ := h1
  have q1 : (48 : Int) ≤ (c.toNat : Int) := by omega
  have q2 : (c.toNat : Int) ≤ 57 := by omega
  go_enter Tryz.func102, Tryz.ntmps102
  go_wp2
  go_ret
  refine ⟨?_, rfl⟩
  rw [HV.out]
  rfl
 ·by_cases h2 : 97 ≤ c.toNat ∧ c.toNat ≤ 102
  ·have HV : Hid (hexI c = (c.toNat : Int) - 97 + 10) := by refine hid ?_; unfold hexI hexV; rw [if_neg h1, if_pos h2]; simp; omega
   obtain ⟨p1, p2⟩ := h2
   have q1 : (97 : Int) ≤ (c.toNat : Int) := by omega
   have q2 : (c.toNat : Int) ≤ 102 := by omega
   go_enter Tryz.func102, Tryz.ntmps102
   go_wp2
   all_goals try (exfalso; omega)
   all_goals go_ret
   all_goals refine ⟨?_, rfl⟩
   all_goals rw [HV.out]
   all_goals rfl
  ·have HV : Hid (hexI c = -1) := by refine hid ?_; unfold hexI hexV; rw [if_neg h1, if_neg h2]
   go_enter Tryz.func102, Tryz.ntmps102
   go_wp2
   all_goals try (exfalso; omega)
   all_goals go_ret
   all_goals refine ⟨?_, rfl⟩
   all_goals rw [HV.out]
   all_goals rfl
def Wd (s : ByteArray) (a n : Nat) : Prop := a ≤ n ∧ n ≤ s.size ∧ (s.data.toList.drop a).takeWhile plainB = (s.data.toList.take n).drop a ++ (s.data.toList.drop n).takeWhile plainB
theorem Wd.start (s : ByteArray) {a : Nat} (ha : a ≤ s.size) : Wd s a a := by
 refine ⟨Nat.le_refl _, ha, ?_⟩
 have : (s.data.toList.take a).drop a = [] := List.drop_of_length_le (by rw [List.length_take]; omega)
 rw [this]
 rfl
theorem Wd.step {s : ByteArray} {a n : Nat} (h : Wd s a n) (hn : n < s.size) (hp : plainB (s[n]'hn) = true) : Wd s a (n + 1) := by
 obtain ⟨h1, h2, h3⟩ := h
 refine ⟨by omega, by omega, ?_⟩
 rw [h3, drop_more s n hn, List.takeWhile_cons, if_pos hp, take_snoc s n hn, List.drop_append_of_le_length (by rw [List.length_take, ← Lib.size_eq]; omega)]
 simp
theorem Wd.stop {s : ByteArray} {a n : Nat} (h : Wd s a n) (hn : ∀ h : n < s.size, plainB (s[n]'h) = false) : (s.data.toList.drop a).takeWhile plainB = (s.data.toList.take n).drop a ∧ (s.data.toList.drop a).dropWhile plainB = s.data.toList.drop n := by
 obtain ⟨h1, h2, h3⟩ := h
 have e : (s.data.toList.drop n).takeWhile plainB = [] := by
  by_cases hlt : n < s.size
  ·rw [drop_more s n hlt, List.takeWhile_cons, if_neg (by rw [hn hlt]; decide)]
  ·rw [List.drop_of_length_le (by rw [← Lib.size_eq]; omega)]
   rfl
 rw [e, List.append_nil] at h3
 refine ⟨h3, ?_⟩
 have h4 := List.takeWhile_append_dropWhile (p := plainB) (l := s.data.toList.drop a)
 rw [h3] at h4
 have h5 : (s.data.toList.take n).drop a ++ s.data.toList.drop n = s.data.toList.drop a := by
  have := List.take_append_drop n s.data.toList
  have h6 : s.data.toList.drop a = ((s.data.toList.take n) ++ s.data.toList.drop n).drop a := by rw [this]
  rw [h6, List.drop_append_of_le_length (by rw [List.length_take, ← Lib.size_eq]; omega)]
 exact List.append_cancel_left (h4.trans h5.symm)
set_option maxRecDepth 100000 in
set_option maxHeartbeats 1600000 in
theorem word_any (w : World) (s : ByteArray) (a : Nat) (ha : a ≤ s.size) (hs : s.size ≤ 100000) :
  Calls Tryz.prog 74 #[.string s, .int .i64 (a : Int)] w fun e w' => (∃ n, Wd s a n ∧ (∀ h : n < s.size, plainB (s[n]'h) = false) ∧ e = .returned (.string (s.extract a n))) ∧ w' = w := by
 go_enter Tryz.func74, Tryz.ntmps74
 go_wp2
 go_loop [5] (fun i => ∃ (n : Nat), i = .int .i64 (n : Int) ∧ Wd s a n) (fun i => s.size - (intOf i).toNat)
 case atStart => exact ⟨a, rfl, Wd.start s ha⟩
 case round =>
  obtain ⟨n, rfl, hw⟩ := hrel
  have h1 := hw.1
  have h2 := hw.2.1
  have HW := hid hw
  clear hw
  have hn1 : (a : Int) ≤ (n : Int) := by omega
  by_cases hlt : n < s.size
  ·have hsl : ∀ W, (Instr.sliceAt 9 (.string s) (some (.int .i64 (n : Int))) (some (.int .i64 ((n : Int) + 1))) none).run Tryz.prog W = .ok (.string (s.extract n (n + 1))) W := fun W => by
    have b1 : n ≤ n + 1 := by omega
    have b2 : n + 1 ≤ s.size := hlt
    rw [show ((n : Int) + 1) = ((n + 1 : Nat) : Int) by omega]
    generalize n + 1 = n1 at b1 b2 ⊢
    simp [Instr.sliceAt, Instr.slice, Instr.sliceBounds, Instr.sliceBound, run_underlying Tryz.underlying9, asIntOf, b1, b2, Result.andThen]
   have H1 := hid (fun W => plain_any W (s.extract n (n + 1)) (by rw [ByteArray.size_extract]; omega))
   have hpa : plainAll (s.extract n (n + 1)) = plainB (s[n]'hlt) := by
    unfold plainAll
    rw [sub_bytes, take_snoc s n hlt, List.drop_append_of_le_length (by rw [List.length_take, ← Lib.size_eq]; omega), List.drop_of_length_le (by rw [List.length_take]; omega)]
    simp
   rw [hpa] at H1
   cases hp : plainB (s[n]'hlt) with
   | true =>
    rw [hp] at H1
    have HS := hid (HW.out.step hlt hp)
    clear hpa
    go_wp2_with (go_at_call 97; refine (H1.out _).mono ?_)
    exact ⟨⟨n + 1, by go_num, HS.out⟩, by simp [intOf]; omega⟩
   | false =>
    rw [hp] at H1
    have HP := hid hp
    clear hpa
    go_wp2_with (go_at_call 97; refine (H1.out _).mono ?_)
    go_ret
    exact ⟨⟨n, HW.out, fun _ => HP.out, rfl⟩, rfl⟩
  ·go_wp2
   go_ret
   exact ⟨⟨n, HW.out, fun h => absurd h hlt, rfl⟩, rfl⟩
def valS (s : ByteArray) (a : Nat) : Option (List UInt8 × List UInt8) := match s.data.toList.drop a with
 | c :: r => if c.toNat = 34 then valR r else none
 | [] => none
def ValA (s : ByteArray) (e : Ending) : Option (List UInt8 × List UInt8) → Prop
 | some (v, r) => ∃ n : Nat, n ≤ s.size ∧ s.data.toList.drop n = r ∧ e = .returned (.tuple #[.string (mkB v), .int .i64 (n : Int), .bool true])
 | none => e = .returned (.tuple #[.string ⟨#[]⟩, .int .i64 0, .bool false])
def Vd (s : ByteArray) (R : Option (List UInt8 × List UInt8)) (at_ : Nat) (acc : List UInt8) : Prop := at_ ≤ s.size ∧ acc.length ≤ at_ ∧ R = (valR (s.data.toList.drop at_)).map (fun p => (acc ++ p.1, p.2))
theorem Vd.nothing {s : ByteArray} {R : Option (List UInt8 × List UInt8)} {a : Nat} {acc : List UInt8} (h : Vd s R a acc) (ha : ¬ a < s.size) : R = none := by
 rw [h.2.2, List.drop_of_length_le (by rw [← Lib.size_eq]; omega), valR_nil]
 rfl
theorem Vd.close {s : ByteArray} {R : Option (List UInt8 × List UInt8)} {a : Nat} {acc : List UInt8} (h : Vd s R a acc) (ha : a < s.size) (hc : (s[a]'ha).toNat = 34) : R = some (acc, s.data.toList.drop (a + 1)) := by
 rw [h.2.2, drop_more s a ha, valR_cons, if_pos hc]
 simp
theorem Vd.plain {s : ByteArray} {R : Option (List UInt8 × List UInt8)} {a : Nat} {acc : List UInt8} (h : Vd s R a acc) (ha : a < s.size) (h1 : (s[a]'ha).toNat ≠ 34) (h2 : (s[a]'ha).toNat ≠ 92) : Vd s R (a + 1) (acc ++ [s[a]'ha]) := by
 refine ⟨by omega, by have := h.2.1; simp; omega, ?_⟩
 rw [h.2.2, drop_more s a ha, valR_cons, if_neg h1, if_neg h2, Option.map_map]
 congr 1
 funext z
 simp
theorem Vd.hex {s : ByteArray} {R : Option (List UInt8 × List UInt8)} {a : Nat} {acc : List UInt8} {v : UInt8} (h : Vd s R a acc) (ha : a < s.size) (h2 : (s[a]'ha).toNat = 92) (hx : hex2 (s.data.toList.drop (a + 1)) = some v) : Vd s R (a + 3) (acc ++ [v]) := by
 obtain ⟨p, q, r', hr, _, _⟩ := hex2_two hx
 have hl : (s.data.toList.drop (a + 1)).length = r'.length + 2 := by rw [hr]; rfl
 rw [List.length_drop, ← Lib.size_eq] at hl
 refine ⟨by omega, by have := h.2.1; simp; omega, ?_⟩
 rw [h.2.2, drop_more s a ha, valR_cons, if_neg (by omega), if_pos h2, hx]
 simp only [List.drop_drop, Option.map_map]
 congr 1
 funext z
 simp
theorem Vd.bad {s : ByteArray} {R : Option (List UInt8 × List UInt8)} {a : Nat} {acc : List UInt8} (h : Vd s R a acc) (ha : a < s.size) (h2 : (s[a]'ha).toNat = 92) (hx : hex2 (s.data.toList.drop (a + 1)) = none) : R = none := by
 rw [h.2.2, drop_more s a ha, valR_cons, if_neg (by omega), if_pos h2, hx]
 rfl
theorem hex2_at (s : ByteArray) (a : Nat) (h : a + 3 ≤ s.size) : hex2 (s.data.toList.drop (a + 1)) = match hexV (s[a + 1]'(by omega)), hexV (s[a + 2]'(by omega)) with | some x, some y => some (UInt8.ofNat (16 * x + y)) | _, _ => none := by
 rw [drop_more s (a + 1) (by omega), drop_more s (a + 2) (by omega)]
 rfl
theorem hex2_short (s : ByteArray) (a : Nat) (h : ¬ a + 3 ≤ s.size) : hex2 (s.data.toList.drop (a + 1)) = none := by
 have hl : (s.data.toList.drop (a + 1)).length < 2 := by rw [List.length_drop, ← Lib.size_eq]; omega
 match hh : s.data.toList.drop (a + 1), hl with
 | [], _ => rfl
 | [x], _ => rfl
theorem hexI_some {c : UInt8} {n : Nat} (h : hexV c = some n) : hexI c = (n : Int) ∧ n < 16 := ⟨by unfold hexI; rw [h], (hexV_lt h).1⟩
theorem hexI_none {c : UInt8} (h : hexV c = none) : hexI c = -1 := by unfold hexI; rw [h]
set_option maxRecDepth 100000 in
set_option maxHeartbeats 3200000 in
theorem value_any (w : World) (s : ByteArray) (a : Nat) (ha : a ≤ s.size + 1) (hs : s.size ≤ 100000) :
  Calls Tryz.prog 75 #[.string s, .int .i64 (a : Int)] w fun e w' => ValA s e (valS s a) ∧ Kept w w' := by
 by_cases h0 : a < s.size
 ·by_cases h34 : (s[a]'h0).toNat = 34
  ·have HV0 : Hid (Vd s (valS s a) (a + 1) []) := by
    refine ⟨by omega, by simp, ?_⟩
    unfold valS
    rw [drop_more s a h0]
    simp only [if_pos h34]
    simp
   generalize valS s a = R at HV0 ⊢
   have hc34 : (((s[a]'h0).toNat : Int) != 34) = false := by simp; omega
   have h0' : ¬ s.size ≤ a := by omega
   have H34 := hid h34
   clear h34
   go_enter Tryz.func75, Tryz.ntmps75
   go_wp2
   generalize hz1 : decide (s.size ≤ a) = z1
   generalize hz2 : (((s[a]'h0).toNat : Int) != 34) = z2
   clear hz1 hz2 hc34 h0'
   go_loopw [1, 7] (fun i b wr => ∃ (k : Nat) (acc : List UInt8), i = .int .i64 (k : Int) ∧ Vd s R k acc ∧ BytAt wr w.heap.size b acc ∧ Kept w wr) (fun i _ _ => s.size - (intOf i).toNat)
   case atStart => exact ⟨a + 1, [], by go_num, HV0.out, ⟨rfl, .inl ⟨rfl, rfl⟩⟩, Only.refl _ _⟩
   case round =>
    obtain ⟨k, acc, rfl, hv, hat, kr⟩ := hrel
    obtain ⟨oa, oc, rfl⟩ := own_slice hat
    have hk := hv.1
    have hal := hv.2.1
    have HV := hid hv
    have HA := hid hat
    have HK := hid kr
    clear hv
    by_cases hlt : k < s.size
    ·have hlt' : (k : Int) < (s.size : Int) := by omega
     by_cases c34 : (s[k]'hlt).toNat = 34
     ·have hR := HV.out.close hlt c34
      have hcn : (((s[k]'hlt).toNat : Int) != 34) = false := by simp; omega
      have hcv := bytes_conv (own_src hat)
      have HR := hid hR
      have hge : ¬ s.size ≤ k := by omega
      clear c34 hat kr hR
      generalize acc.length = N at hcv HA hal ⊢
      go_wp2
      go_ret3
      refine ⟨?_, HK.out⟩
      rw [HR.out]
      exact ⟨k + 1, by omega, rfl, by go_num⟩
     ·have hcn : (((s[k]'hlt).toNat : Int) != 34) = true := by simp; omega
      have hcl := (s[k]'hlt).toNat_lt
      by_cases c92 : (s[k]'hlt).toNat = 92
      ·have hc92 : (((s[k]'hlt).toNat : Int) == 92) = true := by simp; omega
       by_cases h3 : k + 3 ≤ s.size
       ·have hx2 := hex2_at s k h3
        have G1 := hid (fun W => rhex_any W (s[k + 1]'(by omega)))
        have G2 := hid (fun W => rhex_any W (s[k + 2]'(by omega)))
        have HBd := hid (fun h => HV.out.bad hlt c92 h)
        have HHx := hid (fun v h => HV.out.hex (v := v) hlt c92 h)
        have C92 := hid c92
        have C34 := hid c34
        have t1 : ¬ ((s.size : Int) < (k : Int) + 1 + 2) := by omega
        have t2 : (k : Int) + 1 < (s.size : Int) := by omega
        have t3 : (k : Int) + 1 + 1 < (s.size : Int) := by omega
        clear c92 c34 kr
        cases hA : hexV (s[k + 1]'(by omega)) with
        | none =>
         rw [hA] at hx2
         have hbad := hid (HBd.out (by rw [hx2]))
         have hi := hexI_none hA
         rw [hi] at G1
         clear hx2 hA hi HBd HHx
         go_wp2_with fail
         refine (G1.out _).mono ?_
         rintro e w1 ⟨rfl, hq⟩
         replace hq := hq.symm
         subst hq
         go_wp2_with fail
         refine (G2.out _).mono ?_
         rintro e w1 ⟨rfl, hq⟩
         replace hq := hq.symm
         subst hq
         go_wp2
         go_ret3
         refine ⟨?_, HK.out⟩
         rw [hbad.out]
         rfl
        | some x =>
         obtain ⟨hi, hx16⟩ := hexI_some hA
         rw [hi] at G1
         cases hC : hexV (s[k + 2]'(by omega)) with
         | none =>
          rw [hA, hC] at hx2
          have hbad := hid (HBd.out (by rw [hx2]))
          have hj := hexI_none hC
          rw [hj] at G2
          clear hx2 hA hC hi hj HBd HHx
          go_wp2_with fail
          refine (G1.out _).mono ?_
          rintro e w1 ⟨rfl, hq⟩
          replace hq := hq.symm
          subst hq
          go_wp2_with fail
          refine (G2.out _).mono ?_
          rintro e w1 ⟨rfl, hq⟩
          replace hq := hq.symm
          subst hq
          go_wp2
          all_goals try (exfalso; omega)
          go_ret3
          refine ⟨?_, HK.out⟩
          rw [hbad.out]
          rfl
         | some y =>
          obtain ⟨hj, hy16⟩ := hexI_some hC
          rw [hj] at G2
          rw [hA, hC] at hx2
          have HP := hid (HHx.out _ hx2)
          have hvt : (((UInt8.ofNat (16 * x + y)).toNat : Nat) : Int) = 16 * (x : Int) + (y : Int) := by
           rw [UInt8.toNat_ofNat']
           omega
          have hwr : IntKind.u8.wrap (16 * (x : Int) + (y : Int)) = 16 * (x : Int) + (y : Int) := by
           simp [IntKind.wrap, IntKind.bits, IntKind.signed]
           omega
          obtain ⟨g, cap, w4, Hr, hat4, hk4⟩ := byt_step (w0 := w) hat HK.out [UInt8.ofNat (16 * x + y)] (by simp) (by simp only [List.length_singleton]; omega)
          simp only [List.map_cons, List.map_nil, List.length_singleton, bV] at Hr hat4
          rw [hvt] at Hr
          have HA4 := hid hat4
          have HK4 := hid hk4
          clear hx2 hA hC hi hj HBd HHx hat4 hk4 hat hvt
          go_wp2_with fail
          refine (G1.out _).mono ?_
          rintro e w1 ⟨rfl, hq⟩
          replace hq := hq.symm
          subst hq
          go_wp2_with fail
          refine (G2.out _).mono ?_
          rintro e w1 ⟨rfl, hq⟩
          replace hq := hq.symm
          subst hq
          go_wp2_with (at_builtin; refine wpList_append_run rfl _ _ _ rfl rfl rfl Hr ?_)
          refine ⟨⟨k + 3, _, by go_num, HP.out, HA4.out, HK4.out⟩, ?_⟩
          simp [intOf]
          omega
       ·have hbad := hid (HV.out.bad hlt c92 (hex2_short s k h3))
        have t1 : (s.size : Int) < (k : Int) + 1 + 2 := by omega
        have C92 := hid c92
        have C34 := hid c34
        clear c92 c34
        go_wp2
        all_goals try (exfalso; omega)
        go_ret3
        refine ⟨?_, HK.out⟩
        rw [hbad.out]
        rfl
      ·have hc92 : (((s[k]'hlt).toNat : Int) == 92) = false := by simp; omega
       have HP := hid (HV.out.plain hlt c34 c92)
       obtain ⟨g, cap, w4, Hr, hat4, hk4⟩ := byt_step (w0 := w) hat kr [s[k]'hlt] (by simp) (by simp only [List.length_singleton]; omega)
       simp only [List.map_cons, List.map_nil, List.length_singleton, bV] at Hr hat4
       have HA4 := hid hat4
       have HK4 := hid hk4
       have C92 := hid c92
       have C34 := hid c34
       clear c92 c34 hat4 hk4 hat kr
       go_wp2_with (at_builtin; refine wpList_append_run rfl _ _ _ rfl rfl rfl Hr ?_)
       refine ⟨⟨k + 1, _, by go_num, HP.out, HA4.out, HK4.out⟩, ?_⟩
       simp [intOf]
       omega
    ·have hR := hid (HV.out.nothing hlt)
     have hlt' : ¬ ((k : Int) < (s.size : Int)) := by omega
     have hge : s.size ≤ k := by omega
     go_wp2
     all_goals try (exfalso; omega)
     go_ret3
     refine ⟨?_, HK.out⟩
     rw [hR.out]
     rfl
  ·have hN : Hid (valS s a = none) := by
    refine hid ?_
    unfold valS
    rw [drop_more s a h0]
    simp only [if_neg h34]
   have hc34 : (((s[a]'h0).toNat : Int) != 34) = true := by simp; omega
   have h0' : ¬ s.size ≤ a := by omega
   have H34 := hid h34
   clear h34
   go_enter Tryz.func75, Tryz.ntmps75
   go_wp2
   all_goals try (exfalso; simp_all; done)
   go_ret3
   refine ⟨?_, Only.refl _ _⟩
   rw [hN.out]
   rfl
 ·have hN : Hid (valS s a = none) := by
   refine hid ?_
   unfold valS
   rw [List.drop_of_length_le (by rw [← Lib.size_eq]; omega)]
  have h0' : s.size ≤ a := by omega
  go_enter Tryz.func75, Tryz.ntmps75
  go_wp2
  all_goals try (exfalso; omega)
  go_ret3
  refine ⟨?_, Only.refl _ _⟩
  rw [hN.out]
  rfl
end Go.Proofs.YthpkkhmplkmdnaaGreatDoor.N
namespace Go.Proofs.YthpkkhmplkmdnaaGreatDoor.N
open Go.RowKit Go.Proofs.Lys
set_option linter.unusedVariables false
set_option linter.unusedSimpArgs false
structure Rk (s : ByteArray) (k : Nat) (acc : Labs) (p : Nat) : Prop where
 len : acc.length = k
 k17 : k ≤ 17
 ps : p ≤ s.size
 sm : Small acc
 eq : rreadL s.data.toList = (rreadR (17 - k) (s.data.toList.drop p)).map (acc ++ ·)
theorem rlab_at {s : ByteArray} {a n : Nat} (h : Wd s a n) (hn : ∀ h : n < s.size, plainB (s[n]'h) = false) :
  rlabR (s.data.toList.drop a) = if hl : n < s.size then (if (s[n]'hl).toNat = 61 then (valS s (n + 1)).map (fun p => (((s.data.toList.take n).drop a, p.1), p.2)) else none) else none := by
 obtain ⟨h1, h2⟩ := h.stop hn
 unfold rlabR
 rw [h1, h2]
 by_cases hlt : n < s.size
 ·rw [dif_pos hlt, drop_more s n hlt]
  unfold valS
  cases hd : s.data.toList.drop (n + 1) with
  | nil =>
   simp only
   split <;> rfl
  | cons c r =>
   simp only
   by_cases h61 : (s[n]'hlt).toNat = 61
   ·rw [if_pos h61]
    by_cases h34 : c.toNat = 34
    ·rw [if_pos ⟨h61, h34⟩, if_pos h34]
    ·rw [if_neg (fun h => h34 h.2), if_neg h34]
     rfl
   ·rw [if_neg h61, if_neg (fun h => h61 h.1)]
 ·rw [dif_neg hlt, List.drop_of_length_le (by rw [← Lib.size_eq]; omega)]
theorem Rk.bad {s : ByteArray} {k : Nat} {acc : Labs} {p : Nat} (h : Rk s k acc p) (hn : rlabR (s.data.toList.drop p) = none ∨ 16 < k) : rreadL s.data.toList = none := by
 have h17 := h.k17
 have := h.eq
 by_cases hk : k ≤ 16
 ·have e : 17 - k = (16 - k) + 1 := by omega
  rcases hn with hn | hn
  ·rw [e, rreadR, hn] at this
   exact this
  ·omega
 ·have e : 17 - k = 0 := by omega
  rw [e] at this
  exact this
theorem Rk.last {s : ByteArray} {k : Nat} {acc : Labs} {p e : Nat} {x : List UInt8 × List UInt8} (h : Rk s k acc p) (hk : k ≤ 16) (hl : rlabR (s.data.toList.drop p) = some (x, s.data.toList.drop e)) (hc : ∀ he : e < s.size, (s[e]'he).toNat ≠ 44) : rreadL s.data.toList = some (acc ++ [mkLab x]) := by
 have e1 : 17 - k = (16 - k) + 1 := by omega
 have := h.eq
 rw [e1, rreadR, hl] at this
 by_cases he : e < s.size
 ·rw [drop_more s e he] at this
  simp only [if_neg (hc he)] at this
  exact this
 ·rw [List.drop_of_length_le (by rw [← Lib.size_eq]; omega)] at this
  exact this
theorem Rk.more {s : ByteArray} {k : Nat} {acc : Labs} {p e : Nat} {x : List UInt8 × List UInt8} (h : Rk s k acc p) (hk : k ≤ 16) (hl : rlabR (s.data.toList.drop p) = some (x, s.data.toList.drop e)) (he : e < s.size) (hc : (s[e]'he).toNat = 44) (hx : (mkLab x).1.size ≤ 100000 ∧ (mkLab x).2.size ≤ 100000) : Rk s (k + 1) (acc ++ [mkLab x]) (e + 1) := by
 have e1 : 17 - k = (16 - k) + 1 := by omega
 have e2 : 17 - (k + 1) = 16 - k := by omega
 have := h.eq
 rw [e1, rreadR, hl, drop_more s e he] at this
 simp only [if_pos hc] at this
 refine ⟨by rw [List.length_append, h.len]; rfl, by omega, by omega, fun y hy => ?_, ?_⟩
 ·rcases List.mem_append.1 hy with hy | hy
  ·exact h.sm y hy
  ·have := List.mem_singleton.1 hy
   subst this
   exact hx
 ·rw [this, e2, Option.map_map]
  congr 1
  funext z
  simp
theorem Rk.start {s : ByteArray} (h0 : 0 < s.size) (hc : (s[0]'h0).toNat = 123) : Rk s 0 [] 1 := by
 refine ⟨rfl, by omega, h0, fun y hy => (by cases hy), ?_⟩
 have := drop_more s 0 h0
 rw [List.drop_zero] at this
 rw [this]
 show (if (s[0]'h0).toNat = 123 then rreadR 17 (s.data.toList.drop (0 + 1)) else none) = _
 rw [if_pos hc]
 simp
theorem rread_no {s : ByteArray} (h : ∀ h0 : 0 < s.size, (s[0]'h0).toNat ≠ 123) : rreadL s.data.toList = none := by
 by_cases h0 : 0 < s.size
 ·have := drop_more s 0 h0
  rw [List.drop_zero] at this
  rw [this]
  show (if (s[0]'h0).toNat = 123 then _ else none) = none
  rw [if_neg (h h0)]
 ·have : s.data.toList = [] := List.length_eq_zero_iff.1 (by rw [← Lib.size_eq]; omega)
  rw [this]
  rfl
theorem valR_len : ∀ (n : Nat) (S v r : List UInt8), S.length ≤ n → valR S = some (v, r) → v.length ≤ S.length := by
 intro n
 induction n with
 | zero =>
  intro S v r hS h
  have : S = [] := List.length_eq_zero_iff.1 (by omega)
  subst this
  rw [valR_nil] at h
  cases h
 | succ n ih =>
  intro S v r hS h
  cases S with
  | nil => rw [valR_nil] at h; cases h
  | cons c S' =>
   rw [valR_cons] at h
   split at h
   ·cases h; simp
   ·split at h
    ·cases hx : hex2 S' with
     | none => rw [hx] at h; cases h
     | some y =>
      rw [hx] at h
      obtain ⟨z, hz, e⟩ := Option.map_eq_some_iff.1 h
      obtain ⟨z1, z2⟩ := z
      cases e
      have := ih (S'.drop 2) z1 z2 (by rw [List.length_drop]; simp at hS; omega) hz
      rw [List.length_drop] at this
      simp
      omega
    ·obtain ⟨z, hz, e⟩ := Option.map_eq_some_iff.1 h
     obtain ⟨z1, z2⟩ := z
     cases e
     have := ih S' z1 z2 (by simp at hS; omega) hz
     simp
     omega
theorem valS_len {s : ByteArray} {a : Nat} {v r : List UInt8} (h : valS s a = some (v, r)) : v.length ≤ s.size := by
 unfold valS at h
 split at h
 ·rename_i c r' hd
  split at h
  ·have h1 := valR_len _ _ _ _ (Nat.le_refl _) h
   have h2 := congrArg List.length hd
   rw [List.length_drop, ← Lib.size_eq, List.length_cons] at h2
   omega
  ·cases h
 ·cases h
set_option maxRecDepth 100000 in
set_option maxHeartbeats 3200000 in
theorem rparse_any (w : World) (s : ByteArray) (hs : s.size ≤ 100000) :
  Calls Tryz.prog 45 #[.string s] w fun e w' => (∃ u n, e = .returned (.tuple #[u, .int .i64 n]) ∧ ParseA w' w.heap.size u n (rparseL s.data.toList)) ∧ Kept w w' := by
 have HPd : Hid (rparseL s.data.toList = (rreadL s.data.toList).bind (fun l => (makeL l).bind (fun m => if textL m = s.data.toList then some l else none))) := rfl
 by_cases h0 : 0 < s.size
 ·have hne := not_empty (s := s) (by omega)
  by_cases hc : (s[0]'h0).toNat = 123
  ·have HR0 := hid (Rk.start h0 hc)
   have hc' : (((s[0]'h0).toNat : Int) != 123) = false := by simp; omega
   have HCc := hid hc
   clear hc
   go_enter Tryz.func45, Tryz.ntmps45
   go_wp2
   all_goals try (exfalso; simp_all; done)
   go_loopw [4, 5] (fun i out wr => ∃ (k : Nat) (acc : Labs) (p : Nat), i = .int .i64 (p : Int) ∧ Rk s k acc p ∧ LabAt wr w.heap.size out acc ∧ Kept w wr) (fun _ out _ => 18 - outN out)
   case atStart => exact ⟨0, [], 1, rfl, HR0.out, ⟨rfl, .inl ⟨rfl, rfl⟩⟩, Only.refl _ _⟩
   case round =>
    obtain ⟨k, acc, p, rfl, hr, hat, kr⟩ := hrel
    obtain ⟨oa, oc, rfl⟩ := ownN_slice hat
    have hk := hr.len
    have h17 := hr.k17
    have hps := hr.ps
    have HR := hid hr
    have HA := hid hat
    have HK := hid kr
    have H1 := hid (word_any wr s p hps hs)
    clear hr hat kr
    have HBad : Hid ((rlabR (s.data.toList.drop p) = none ∨ 16 < k) → rparseL s.data.toList = none) := fun h => by rw [HPd.out, HR.out.bad h]; rfl
    go_wp2_with fail
    refine H1.out.mono ?_
    rintro e w1 ⟨⟨n, hW, hst, rfl⟩, hq⟩
    replace hq := hq.symm
    subst hq
    have hlb := rlab_at hW hst
    have hpn := hW.1
    have hns := hW.2.1
    have hsz : (s.extract p n).size = n - p := by rw [ByteArray.size_extract]; omega
    have hsz' : (((s.extract p n).size : Nat) : Int) = (n : Int) - (p : Int) := by omega
    have HWd : Hid ((s.extract p n).data.toList = (s.data.toList.take n).drop p) := by refine hid ?_; exact sub_bytes s p n
    have hadd : (p : Int) + ((n : Int) - (p : Int)) = (n : Int) := by omega
    clear hW hst H1
    generalize s.extract p n = wd at hsz hsz' HWd ⊢
    by_cases hlt : n < s.size
    ·rw [dif_pos hlt] at hlb
     by_cases h61 : (s[n]'hlt).toNat = 61
     ·rw [if_pos h61] at hlb
      have h61' : (((s[n]'hlt).toNat : Int) != 61) = false := by simp; omega
      have hge : ¬ s.size ≤ n := by omega
      have H2 := hid (value_any wr s (n + 1) (by omega) hs)
      have H61 := hid h61
      have HLb := hid hlb
      clear h61 hlb
      go_wp2_with fail
      have e1 : ((n + 1 : Nat) : Int) = (p : Int) + ((n - p : Nat) : Int) + 1 := by omega
      rw [e1] at H2
      refine H2.out.mono ?_
      clear e1
      rintro e w2 ⟨hV, k2⟩
      have HK2 := hid k2
      clear k2 H2
      cases hv : valS s (n + 1) with
      | none =>
       rw [hv] at hV
       have hV' : e = .returned (.tuple #[.string ⟨#[]⟩, .int .i64 0, .bool false]) := hV
       subst hV'
       have hbad := hid (HBad.out (.inl (by rw [HLb.out, hv]; rfl)))
       clear hV
       go_wp2
       go_ret2
       refine ⟨⟨_, _, rfl, ?_⟩, HK.out.trans HK2.out (fun _ _ f => f)⟩
       rw [hbad.out]
       exact ⟨rfl, rfl⟩
      | some q =>
       obtain ⟨v, r⟩ := q
       rw [hv] at hV
       obtain ⟨q, hqs, hqd, rfl⟩ := hV
       have hvl := valS_len hv
       have HLb2 : Hid (rlabR (s.data.toList.drop p) = some ((wd.data.toList, v), s.data.toList.drop q)) := by
        refine hid ?_
        rw [HLb.out, hv, hqd, HWd.out]
        rfl
       clear hv hqd
       by_cases hk16 : k ≤ 16
       ·have hk' : ¬ ((16 : Int) < (k : Int)) := by omega
        have hmk : mkLab (wd.data.toList, v) = (wd, mkB v) := rfl
        obtain ⟨g, cap, w4, Hr, hat4, hk4⟩ := lab_step (w0 := w) (w := w2) (ownN_stay HA.out HK2.out) (HK.out.trans HK2.out (fun _ _ f => f)) (wd, mkB v) (by omega)
        rw [hk] at Hr hat4
        have HA4 := hid hat4
        have HK4 := hid hk4
        have hsx : (mkLab (wd.data.toList, v)).1.size ≤ 100000 ∧ (mkLab (wd.data.toList, v)).2.size ≤ 100000 := by
         rw [hmk]
         exact ⟨by show wd.size ≤ _; omega, by show (mkB v).size ≤ _; rw [mkB_size]; omega⟩
        clear hat4 hk4
        by_cases hqc : ∃ he : q < s.size, (s[q]'he).toNat = 44
        ·obtain ⟨he, h44⟩ := hqc
         have HM := HR.out.more hk16 HLb2.out he h44 hsx
         rw [hmk] at HM
         have HMo := hid HM
         have h44' : (((s[q]'he).toNat : Int) == 44) = true := by simp; omega
         have H44 := hid h44
         have he' : (q : Int) < (s.size : Int) := by omega
         clear HM h44 hsx hmk
         go_wp2_with (at_builtin; refine wpList_append_run rfl _ _ _ rfl rfl rfl Hr ?_)
         refine ⟨⟨k + 1, acc ++ [(wd, mkB v)], q + 1, by go_num, HMo.out, HA4.out, HK4.out⟩, ?_⟩
         simp only [outN]
         omega
        ·have HM := HR.out.last hk16 HLb2.out (fun he h => hqc ⟨he, h⟩)
         rw [hmk] at HM hsx
         have hsm : Small (acc ++ [(wd, mkB v)]) := fun y hy => by
          rcases List.mem_append.1 hy with hy | hy
          ·exact HR.out.sm y hy
          ·have := List.mem_singleton.1 hy
           subst this
           exact hsx
         have HTx := hid (rtext_any w4 _ (acc ++ [(wd, mkB v)]) (LabAt.src HA4.out) (by simp; omega) hsm)
         have HPt : Hid ((txtB (acc ++ [(wd, mkB v)])).data.toList = s.data.toList → rparseL s.data.toList = some (acc ++ [(wd, mkB v)])) := fun h => by
          rw [HPd.out, HM]
          show (makeL (acc ++ [(wd, mkB v)])).bind _ = _
          unfold txtB at h
          cases hm : makeL (acc ++ [(wd, mkB v)]) with
          | none =>
           rw [hm] at h
           have h' : ([] : List UInt8) = s.data.toList := h
           have := congrArg List.length h'
           rw [← Lib.size_eq] at this
           simp at this
           omega
          | some m =>
           rw [hm] at h
           have h' : textL m = s.data.toList := h
           show (if textL m = s.data.toList then _ else none) = _
           rw [if_pos h']
         have HPf : Hid ((txtB (acc ++ [(wd, mkB v)])).data.toList ≠ s.data.toList → rparseL s.data.toList = none) := fun h => by
          rw [HPd.out, HM]
          show (makeL (acc ++ [(wd, mkB v)])).bind _ = _
          unfold txtB at h
          cases hm : makeL (acc ++ [(wd, mkB v)]) with
          | none => rfl
          | some m =>
           rw [hm] at h
           have h' : textL m ≠ s.data.toList := h
           show (if textL m = s.data.toList then _ else none) = _
           rw [if_neg h']
         have hEq : ((txtB (acc ++ [(wd, mkB v)])).toList == s.toList) = decide ((txtB (acc ++ [(wd, mkB v)])).data.toList = s.data.toList) := by
          rw [ByteArray.toList_eq, ByteArray.toList_eq]
          by_cases h : (txtB (acc ++ [(wd, mkB v)])).data.toList = s.data.toList
          ·rw [decide_eq_true h, h]; simp
          ·rw [decide_eq_false h]
           simpa using h
         generalize txtB (acc ++ [(wd, mkB v)]) = X at HTx HPt HPf hEq
         have HEq := hid hEq
         have HQc := hid hqc
         clear HM hsm hsx hmk hqc hEq
         by_cases he : q < s.size
         ·have h44' : (((s[q]'he).toNat : Int) == 44) = false := by
           have : (s[q]'he).toNat ≠ 44 := fun h => HQc.out ⟨he, h⟩
           simp
           omega
          have he' : (q : Int) < (s.size : Int) := by omega
          go_wp2_with (at_builtin; refine wpList_append_run rfl _ _ _ rfl rfl rfl Hr ?_)
          have hEq := HEq.out
          refine HTx.out.mono ?_
          rintro e w5 ⟨rfl, k5⟩
          have HK5 := hid (HK4.out.trans k5 (fun _ _ f => f))
          have HA5 := hid (ownN_stay HA4.out k5)
          clear k5 HTx
          cases hb : decide (X.data.toList = s.data.toList) with
          | true =>
           rw [hb] at hEq
           have hp := hid (HPt.out (of_decide_eq_true hb))
           clear hb
           go_wp2
           go_ret2
           refine ⟨⟨_, _, rfl, ?_⟩, HK5.out⟩
           rw [hp.out]
           exact ⟨rfl, HA5.out⟩
          | false =>
           rw [hb] at hEq
           have hp := hid (HPf.out (of_decide_eq_false hb))
           clear hb
           go_wp2
           go_ret2
           refine ⟨⟨_, _, rfl, ?_⟩, HK5.out⟩
           rw [hp.out]
           exact ⟨rfl, rfl⟩
         ·have he' : ¬ ((q : Int) < (s.size : Int)) := by omega
          go_wp2_with (at_builtin; refine wpList_append_run rfl _ _ _ rfl rfl rfl Hr ?_)
          have hEq := HEq.out
          refine HTx.out.mono ?_
          rintro e w5 ⟨rfl, k5⟩
          have HK5 := hid (HK4.out.trans k5 (fun _ _ f => f))
          have HA5 := hid (ownN_stay HA4.out k5)
          clear k5 HTx
          cases hb : decide (X.data.toList = s.data.toList) with
          | true =>
           rw [hb] at hEq
           have hp := hid (HPt.out (of_decide_eq_true hb))
           clear hb
           go_wp2
           go_ret2
           refine ⟨⟨_, _, rfl, ?_⟩, HK5.out⟩
           rw [hp.out]
           exact ⟨rfl, HA5.out⟩
          | false =>
           rw [hb] at hEq
           have hp := hid (HPf.out (of_decide_eq_false hb))
           clear hb
           go_wp2
           go_ret2
           refine ⟨⟨_, _, rfl, ?_⟩, HK5.out⟩
           rw [hp.out]
           exact ⟨rfl, rfl⟩
       ·have hk' : (16 : Int) < (k : Int) := by omega
        have hbad := hid (HBad.out (.inr (by omega)))
        go_wp2
        all_goals try (exfalso; omega)
        go_ret2
        refine ⟨⟨_, _, rfl, ?_⟩, HK.out.trans HK2.out (fun _ _ f => f)⟩
        rw [hbad.out]
        exact ⟨rfl, rfl⟩
     ·rw [if_neg h61] at hlb
      have hbad := hid (HBad.out (.inl hlb))
      have h61' : (((s[n]'hlt).toNat : Int) != 61) = true := by simp; omega
      have hge : ¬ s.size ≤ n := by omega
      have H61 := hid h61
      clear h61 hlb
      go_wp2
      all_goals try (exfalso; simp_all; done)
      go_ret2
      refine ⟨⟨_, _, rfl, ?_⟩, HK.out⟩
      rw [hbad.out]
      exact ⟨rfl, rfl⟩
    ·rw [dif_neg hlt] at hlb
     have hbad := hid (HBad.out (.inl hlb))
     have hge : s.size ≤ n := by omega
     clear hlb
     go_wp2
     all_goals try (exfalso; omega)
     go_ret2
     refine ⟨⟨_, _, rfl, ?_⟩, HK.out⟩
     rw [hbad.out]
     exact ⟨rfl, rfl⟩
  ·have hN : Hid (rparseL s.data.toList = none) := by refine hid ?_; rw [HPd.out, rread_no (fun _ => hc)]; rfl
   have hc' : (((s[0]'h0).toNat : Int) != 123) = true := by simp; omega
   have HCc := hid hc
   clear hc
   go_enter Tryz.func45, Tryz.ntmps45
   go_wp2
   all_goals try (exfalso; simp_all; done)
   go_ret2
   refine ⟨⟨_, _, rfl, ?_⟩, Only.refl _ _⟩
   rw [hN.out]
   exact ⟨rfl, rfl⟩
 ·have hN : Hid (rparseL s.data.toList = none) := by refine hid ?_; rw [HPd.out, rread_no (fun h => absurd h h0)]; rfl
  have es : s = ⟨#[]⟩ := bytes_inj (List.length_eq_zero_iff.1 (by rw [← Lib.size_eq]; omega))
  subst es
  go_enter Tryz.func45, Tryz.ntmps45
  go_wp2
  all_goals try (exfalso; simp_all; done)
  go_ret2
  refine ⟨⟨_, _, rfl, ?_⟩, Only.refl _ _⟩
  rw [hN.out]
  exact ⟨rfl, rfl⟩
end Go.Proofs.YthpkkhmplkmdnaaGreatDoor.N
