/-
  Krb.
-/
import Derived.Test.YthpkkhmplkmdnaaGreatDoorQ49
import Derived.Test.YthpkkhmplkmdnaaGreatDoorQ51
import Derived.Test.YthpkkhmplkmdnaaGreatDoorQ44
import Derived.Test.YthpkkhmplkmdnaaGreatDoorQ50
import Derived.Test.YthpkkhmplkmdnaaGreatDoorQ18
namespace Go.Proofs.YthpkkhmplkmdnaaGreatDoor.K
open Go Go.RowKit Go.Proofs.Lys Go.Maps Go.Shelf
open Go.Proofs.YthpkkhmplkmdnaaGreatDoor.N (ownN_slice ownN_lt ownN_only ownN_stay ownN_base ownN_typed ownN_some LabAt)
set_option linter.unusedVariables false
set_option linter.unusedSimpArgs false
def markK : List UInt8 := [76, 89, 83, 49]
theorem readK_mark {bs : List UInt8} {l : List Ser} (h : ReadK bs l) : 8 ≤ bs.length ∧ bs.take 4 = markK := by
 obtain ⟨N, h1, h2, h3, h4⟩ := h
 rw [← h4]
 have p1 := putN_pos (U.zigN (spanB l).1)
 refine ⟨?_, rfl⟩
 unfold blockB bodyB
 have h5 : (G.four (G.sumL ([76, 89, 83, 49] ++ putN (U.zigN (spanB l).1) ++ putN (U.zigN (spanB l).2) ++ putN (U.uN (l.length : Int)) ++ l.flatMap serB))).length = 4 := rfl
 simp only [List.length_append, List.length_cons, List.length_nil, h5]
 omega
theorem ksrc_pre {w : World} {a : Option Addr} {n c : Nat} {xs : List Value} (h : SrcOf w (.slice a n c) xs) {k : Nat} (h0 : 0 < k) (hk : k ≤ xs.length) : SrcOf w (.slice a k c) (xs.take k) := by
 rcases h with ⟨h1, h2⟩ | ⟨b, c', h1, hc⟩
 ·rw [h2] at hk; simp at hk; omega
 ·simp only [Value.slice.injEq] at h1
  obtain ⟨rfl, _, rfl⟩ := h1
  refine .inr ⟨b, c, by rw [List.length_take]; congr 1; omega, fun j u hu => ?_⟩
  rw [List.getElem?_take] at hu
  split at hu
  ·exact hc j u hu
  ·cases hu
theorem RdD.step {w0 w : World} {R : Nat} {v : Value} {bs : List UInt8} {n m : Nat} {bad : Bool} (hb : Blk w R [v, .int .i64 (n : Int), .bool bad] 73) (hs : G.BSrc w0 v bs) (hk : Kept w0 w) (hR : w0.heap.size ≤ R) (hm : m ≤ bs.length) (h0 : bad = false) :
  RdD w0 (w.setCell ⟨R, 1, none⟩ (.int .i64 (m : Int))) R v bs (some (bs.drop m)) :=
 ⟨m, bad, hm, hb.set 1 _, hs, hk.setCell (p := ⟨R, 1, none⟩) (fun hl => by have : R < w0.heap.size := hl; omega) _, hR, by rw [h0]; rfl⟩
theorem labK_num {bs : List UInt8} (h : numK bs = none) : labK bs = none := by unfold labK; rw [h]; rfl
theorem labK_short {bs : List UInt8} {n : Int} {k : Nat} (h : numK bs = some (n, k)) (h2 : n < 0 ∨ ((bs.drop k).length : Int) < n) : labK bs = none := by
 unfold labK; rw [h]; simp only [Option.bind_some]; rw [if_pos h2]
theorem labK_parse {bs : List UInt8} {n : Nat} {k : Nat} (h : numK bs = some ((n : Int), k)) (h2 : n ≤ (bs.drop k).length) : labK bs = (N.rparseL ((bs.drop k).take n)).map (fun m => (m, (bs.drop k).drop n)) := by
 unfold labK; rw [h]; simp only [Option.bind_some]; rw [if_neg (by omega), Int.toNat_natCast, N.parse_same]
theorem ar_wrap {a : Int} (h0 : -9223372036854775808 ≤ a) (h1 : a ≤ 9223372036854775807) : wrap64 a = a := by unfold wrap64; omega
theorem ar_sum {LN pos KN B : Nat} (h : KN ≤ LN - pos) (hp : pos ≤ LN) (hB : B = LN) : pos + KN ≤ B := by omega
theorem ar_le {pos KN : Nat} : pos ≤ pos + KN := Nat.le_add_right _ _
theorem ar_kl {LN pos KN : Nat} (h : ¬ ((KN : Int) < 0 ∨ (LN : Int) - (pos : Int) < (KN : Int))) (hp : pos ≤ LN) : KN ≤ LN - pos := by omega
theorem ar_f1 {LN pos : Nat} {KN : Int} (h : ¬ (KN < 0 ∨ (LN : Int) - (pos : Int) < KN)) : (KN < 0) = False ∧ ((LN : Int) - (pos : Int) < KN) = False := ⟨eq_false (by omega), eq_false (by omega)⟩
theorem ar_small {LN pos KN : Nat} (h : KN ≤ LN - pos) (hL : LN ≤ 10000) : KN ≤ 100000 := by omega
theorem ar_nat {k : Int} {q : Int} (h : ¬ (k < 0 ∨ q < k)) : ∃ n : Nat, k = (n : Int) := ⟨k.toNat, by omega⟩
theorem ar_b1 {LN pos : Nat} (hL : LN ≤ 10000) (hp : pos ≤ LN) : -9223372036854775808 ≤ (LN : Int) - (pos : Int) ∧ (LN : Int) - (pos : Int) ≤ 9223372036854775807 := by omega
theorem ar_b2 {LN pos KN : Nat} (hL : LN ≤ 10000) (hp : pos ≤ LN) (h : KN ≤ 100000) : -9223372036854775808 ≤ (pos : Int) + (KN : Int) ∧ (pos : Int) + (KN : Int) ≤ 9223372036854775807 := by omega
theorem ar_ne {R j : Nat} (h : R + 1 ≤ j) (e : j = R) : False := by omega
theorem ar_more {LN p : Nat} {m : Int} {B : List UInt8} (hB : B.length = LN) (h : m < 0 ∨ (LN : Int) < m) : m < 0 ∨ ((B.drop p).length : Int) < m := by rw [List.length_drop]; omega
theorem ar_f2 {LN : Nat} {m : Int} (h : ¬ (m < 0 ∨ (LN : Int) < m)) : (m < 0) = False ∧ ((LN : Int) < m) = False := ⟨eq_false (by omega), eq_false (by omega)⟩
theorem ar_or {LN : Nat} {m : Int} (h : m < 0 ∨ (LN : Int) < m) : (m < 0) = True ∨ ((m < 0) = False ∧ ((LN : Int) < m) = True) := by
 by_cases h0 : m < 0
 ·exact .inl (eq_true h0)
 ·exact .inr ⟨eq_false h0, eq_true (by omega)⟩
theorem lab_map {rest : List UInt8} {KN : Nat} {B : List UInt8} {pos k1 : Nat} {o : Option N.Labs} {labs : N.Labs} (h : labK rest = o.map (fun m => (m, (rest.drop k1).drop KN))) (ho : o = some labs) (hr : rest.drop k1 = B.drop pos) : labK rest = some (labs, B.drop (pos + KN)) := by
 rw [h, ho, hr, List.drop_drop]; rfl
theorem lab_map0 {rest r : List UInt8} {o : Option N.Labs} (h : labK rest = o.map (fun m => (m, r))) (ho : o = none) : labK rest = none := by
 rw [h, ho]; rfl
theorem bad_true {bad : Bool} {s : Option (List UInt8)} {r : List UInt8} (h : s = (if bad = true then none else some r)) (hs : s = none) : bad = true := by
 cases bad with
 | true => rfl
 | false => rw [hs] at h; simp at h
theorem bad_false {bad : Bool} {s : Option (List UInt8)} {r x : List UInt8} (h : s = (if bad = true then none else some r)) (hs : s = some x) : bad = false ∧ x = r := by
 cases bad with
 | true => rw [hs] at h; simp at h
 | false => rw [hs] at h; simp at h; exact ⟨rfl, h⟩
theorem ar_ms {LN MM : Nat} (h : ¬ ((MM : Int) < 0 ∨ (LN : Int) < (MM : Int))) (hL : LN ≤ 10000) : MM ≤ 10000 := by omega
theorem ar_pred {MM c : Nat} (h : c < MM) : ∃ g, MM - c = g + 1 ∧ MM - (c + 1) = g := ⟨MM - c - 1, by omega, by omega⟩
theorem ar_meas {MM c : Nat} (h : c < MM) : MM - (c + 1) < MM - c := by omega
theorem ar_zero {MM c : Nat} (h : ¬ c < MM) : MM - c = 0 := by omega
theorem ar_f3 {MM c : Nat} (h : ¬ c < MM) : decide ((c : Int) < (MM : Int)) = false := decide_eq_false (by omega)
theorem ar_w2 {pos n : Nat} {B : List UInt8} (hp : pos ≤ B.length) (hn : n ≤ (B.drop pos).length) (hB : B.length ≤ 100000) : wrap64 ((pos : Int) + (n : Int)) = (pos : Int) + (n : Int) := by
 rw [List.length_drop] at hn; unfold wrap64; omega
theorem ar_nk {nn : Int} {k f : Nat} (h : nn.toNat - k = f + 1) : k + 1 ≤ nn.toNat ∧ nn.toNat - (k + 1) = f := by omega
theorem drop_le {B : List UInt8} {p L : Nat} (h : B.length ≤ L) : (B.drop p).length ≤ L := by rw [List.length_drop]; omega
theorem bdC_len {LN : Nat} {acc : List Ser} {m : N.Labs} {sacc ps : C.Smps} {rest : List UInt8} (h : BdC LN acc m sacc rest) (hL : LN ≤ 10000) (hp : ps.length ≤ 120) : sacc.length + ps.length ≤ 1000000 := by
 obtain ⟨_, b2, _⟩ := h; omega
theorem invC_start {B r : List UInt8} {n MM k9 : Nat} {acc : List Ser} {m : N.Labs} {more : List UInt8} (h : ∀ T, IsT B T → ∃ l rest1, SmpsR ((MM : Int)).toNat (more.drop k9) [] (some (l, rest1)) ∧ ∃ rest', SersR n rest1 (acc ++ [(m, l)]) (some (T, rest'))) (hd : more.drop k9 = r) : InvC B n (MM - 0) acc m [] r := by
 rw [Int.toNat_natCast, hd] at h; exact h
theorem rel_next {B : List UInt8} {nn : Int} {k f LN : Nat} {xs : List SV} {x : SV} {rest : List UInt8} (h : nn.toNat - k = f + 1) (hi : InvB B f (xs.map SV.ser ++ [x.ser]) rest) (hb : BdB LN (xs.map SV.ser ++ [x.ser]) rest) :
  (some rest = none ∧ ∀ T, ¬ IsT B T) ∨ ∃ r, some rest = some r ∧ k + 1 ≤ nn.toNat ∧ InvB B (nn.toNat - (k + 1)) ((xs ++ [x]).map SV.ser) r ∧ BdB LN ((xs ++ [x]).map SV.ser) r := by
 refine .inr ⟨rest, rfl, (ar_nk h).1, ?_, ?_⟩
 ·rw [(ar_nk h).2, List.map_append]; exact hi
 ·rw [List.map_append]; exact hb
theorem all_of {B : List UInt8} {nn : Int} {k : Nat} {acc : List Ser} {rest : List UInt8} (hl : acc.length = k) (hk : k ≤ 1001) (hkN : k ≤ nn.toNat) (h : InvB B (nn.toNat - k) acc rest) (hn : ¬ ((k : Int) < nn ∧ k < 1001)) : ∀ T, IsT B T → T = acc := by
 by_cases h2 : nn.toNat - k = 0
 ·rw [h2] at h; exact invB_end h
 ·intro T hT; exact absurd hT (invB_many h (by omega) T)
theorem ar_u {k : Nat} {nn : Int} (hn : ¬ ((k : Int) < nn ∧ k < 1001)) : (decide ((k : Int) < nn) = false) ∨ (decide ((k : Int) < nn) = true ∧ decide ((k : Int) < 1001) = false) := by
 by_cases h : (k : Int) < nn
 ·exact .inr ⟨decide_eq_true h, decide_eq_false (by omega)⟩
 ·exact .inl (decide_eq_false h)
theorem ne_bool {x : Int} (h : x ≠ 0) : (x != 0) = true := by simpa using h
theorem le_base {w : World} {R : Nat} (h : w.heap.size = R) : w.heap.size ≤ R + 1 := by omega
theorem ar_take {pos KN : Nat} : pos + KN - pos = KN := by omega
set_option maxRecDepth 100000 in
set_option maxHeartbeats 6400000 in
theorem rreadblk_any (w : World) (v : Value) (bs : List UInt8) (hs : C.BSrc w v bs) (hl : bs.length ≤ 10000) : Calls Tryz.prog 18 #[v] w (UkP w bs) := by
 obtain ⟨PQ, hPQ⟩ : ∃ PQ, UkP w bs = PQ := ⟨_, rfl⟩
 rw [hPQ]
 have HPQ := hid hPQ
 have HL := hid hl
 have HS := hid hs
 have HNIL : Hid (∀ W, Kept w W → (∀ l, ¬ ReadK bs l) → PQ (.returned (.tuple #[.slice none 0 0, .int .i64 5])) W) := hid (fun W k h => by rw [← HPQ.out]; exact ⟨k, .inl ⟨h, rfl⟩⟩)
 by_cases h8 : bs.length < 8
 ·have HFF := hid (HNIL.out w (Only.refl _ _) (fun m hm => by have := (readK_mark hm).1; omega))
  obtain ⟨hs1, x0, y0, e0, _⟩ := hs
  generalize hLL : bs.length = LL at e0 h8
  subst e0
  have d8 : decide ((LL : Int) < 8) = true := decide_eq_true (by omega)
  clear hs1 hl hPQ hLL
  go_enter Tryz.func18, Tryz.ntmps18
  go_wp2_with fail
  (try go_ret2)
  exact HFF.out
 obtain ⟨LN, hLN⟩ : ∃ LN, bs.length = LN + 4 := ⟨bs.length - 4, by omega⟩
 have hLN4 : 4 ≤ LN := by omega
 have hLs : LN ≤ 10000 := by omega
 obtain ⟨hs1, x0, y0, e0, hcap⟩ := hs
 rw [hLN] at e0 hcap
 subst e0
 have hy4 : 4 ≤ y0 := by omega
 have hyl : LN ≤ y0 := by omega
 have hwl : wrap64 (LN : Int) = (LN : Int) := by unfold wrap64; omega
 have b5 : G.BSrc w (.slice x0 LN y0) (bs.take LN) := by
  have hl5 : (bs.take LN).length = LN := by rw [List.length_take]; omega
  refine ⟨?_, x0, y0, by rw [hl5], by rw [hl5]; exact hyl⟩
  rw [List.map_take]
  exact ksrc_pre hs1 (by omega) (by rw [List.length_map]; omega)
 have cv := G.bytes_str (w := w) (v := .slice x0 4 y0) (bs := bs.take 4) (by
  rw [List.map_take]
  exact ksrc_pre hs1 (by decide) (by rw [List.length_map]; omega))
 obtain ⟨sa, hsa⟩ : ∃ sa, (⟨(bs.take 4).toArray⟩ : ByteArray) = sa := ⟨_, rfl⟩
 rw [hsa] at cv
 have d8 : decide ((LN : Int) + 4 < 8) = false := decide_eq_false (by omega)
 by_cases hmk : bs.take 4 = markK
 ·have heq : (sa.toList == [76, 89, 83, 49]) = true := by
   rw [← hsa, ByteArray.toList_eq]
   simpa [markK] using hmk
  have HB5 := hid b5
  have HLN := hid hLN
  obtain ⟨BS, hBS⟩ : ∃ BS, bs.take LN = BS := ⟨_, rfl⟩
  have hl5 : BS.length = LN := by rw [← hBS, List.length_take]; omega
  rw [hBS] at HB5
  have HL5 : Hid (BS.length ≤ 100000) := hid (by omega)
  have HLB := hid hl5
  have HBS := hid hBS
  have HRET : Hid (∀ W, Kept w W → (∀ T, ¬ IsT BS T) → PQ (.returned (.tuple #[.slice none 0 0, .int .i64 5])) W) := hid (fun W k h => HNIL.out W k (fun l hr => h l (by rw [← hBS]; exact isT_of hLN hr)))
  obtain ⟨R, hR⟩ : ∃ R, w.heap.size = R := ⟨_, rfl⟩
  obtain ⟨wB, hwB⟩ : ∃ wB, w.alloc (.cells #[.slice x0 LN y0, .int .i64 4, .bool false] 73) = wB := ⟨_, rfl⟩
  have kB : Kept w wB := by rw [← hwB]; exact (Only.refl _ w).alloc _
  have hzB : wB.heap.size = R + 1 := by rw [← hwB, ← hR]; simp
  obtain ⟨r0, hr0⟩ : ∃ r0, BS.drop 4 = r0 := ⟨_, rfl⟩
  obtain ⟨sa0, hsa0⟩ : ∃ sa0, sa0 = some r0 := ⟨_, rfl⟩
  have HRa0 : Hid (RdD w wB R (.slice x0 LN y0) BS sa0) := hid (by
   refine ⟨4, false, by omega, ?_, HB5.out, kB, by omega, by rw [hsa0, hr0]; rfl⟩
   have := Blk.new w [.slice x0 LN y0, .int .i64 4, .bool false] 73
   rw [hR] at this
   rw [← hwB]
   exact this)
  have HSA0 := hid hsa0
  have HR0 := hid hr0
  have HRR := hid hR
  have HZB := hid hzB
  have HWB := hid hwB
  clear hl hPQ b5 hsa hmk hs1 hcap hBS hl5 kB hzB hr0 hsa0 hR hLN hwB
  go_enter Tryz.func18, Tryz.ntmps18
  go_wp2_with fail
  rw [HWB.out]
  simp only [HRR.out]
  have HC0 := hid (rsgn_any w wB R (.slice x0 LN y0) BS sa0 HRa0.out HL5.out)
  refine HC0.out.mono ?_
  rintro e u0 ⟨v0, v0', sa1, rfl, hn0, hr0, ho0⟩
  have HN0 := hid hn0
  have HR1 := hid hr0
  have HZ0 := hid ho0.size
  have HC1 := hid (rsgn_any w u0 R (.slice x0 LN y0) BS sa1 hr0 HL5.out)
  clear hn0 hr0 ho0 HC0 HRa0
  go_wp2_with fail
  refine HC1.out.mono ?_
  rintro e u1 ⟨v1, v1', sa2, rfl, hn1, hr1, ho1⟩
  have HN1 := hid hn1
  have HR2 := hid hr1
  have HZ1 := hid (Nat.le_trans HZ0.out ho1.size)
  have HC2 := hid (rnum_any w u1 R (.slice x0 LN y0) BS sa2 hr1 HL5.out)
  clear hn1 hr1 ho1 HC1 HR1 HZ0
  go_wp2_with fail
  refine HC2.out.mono ?_
  rintro e u2 ⟨nn, sa3, rfl, hn2, hr2, ho2⟩
  have HR3 := hid hr2
  have HZ2 := hid (Nat.le_trans HZ1.out ho2.size)
  have HHD := hid (head_is (B := BS) (by have := HLB.out; omega) HR0.out.symm HSA0.out HN0.out HN1.out hn2)
  have HREL : Hid ((sa3 = none ∧ ∀ T, ¬ IsT BS T) ∨ ∃ rest, sa3 = some rest ∧ 0 ≤ nn.toNat ∧ InvB BS (nn.toNat - 0) (([] : List SV).map SV.ser) rest ∧ BdB LN (([] : List SV).map SV.ser) rest) := hid (by
   rcases HHD.out with h | ⟨r, h1, h2, h3⟩
   ·exact .inl h
   ·refine .inr ⟨r, h1, Nat.zero_le _, h3, bdB_nil ?_⟩
    have : r0.length ≤ LN := by rw [← HR0.out, List.length_drop]; have := HLB.out; omega
    omega)
  clear hn2 hr2 ho2 HC2 HR2 HZ1 HN0 HN1 HHD HSA0
  go_wp2_with fail
  go_loopw [6, 7] (fun s6 s7 wr => ∃ (k : Nat) (xs : List SV) (st : Option (List UInt8)) (la : Option Addr) (lc : Nat), k ≤ 1001 ∧ s7 = .int .i64 (k : Int) ∧ s6 = .slice la k lc ∧ xs.length = k ∧ Hid ((st = none ∧ ∀ T, ¬ IsT BS T) ∨ ∃ rest, st = some rest ∧ k ≤ nn.toNat ∧ InvB BS (nn.toNat - k) (xs.map SV.ser) rest ∧ BdB LN (xs.map SV.ser) rest) ∧ Hid (RdD w wr R (.slice x0 LN y0) BS st) ∧ Hid (SerAt wr (R + 1) (.slice la k lc) xs)) (fun _ s7 _ => 1001 - (intOf s7).toNat)
  case atStart => exact ⟨0, [], sa3, none, 0, by omega, rfl, rfl, rfl, HREL, HR3, hid (SerAt.nil _ _)⟩
  case round =>
   clear HREL HR3 HZ2
   obtain ⟨k, xs, st, la, lc, hk, rfl, rfl, hxs, hRel, hR, hSer⟩ := hrel
   obtain ⟨pos, bad, hpos, hRB, _, _, _, hst⟩ := hR.out
   have r2 := hRB.cell 2 rfl
   have HXS := hid hxs
   rcases hRel.out with ⟨hs0, hno⟩ | ⟨rest, hs0, hkN, hinv, hbd⟩
   ·have hbad : bad = true := by
     cases bad with
     | true => rfl
     | false => rw [hs0] at hst; simp at hst
    subst hbad
    have HFF := hid (HRET.out wr hR.out.kept hno)
    obtain ⟨D, hD⟩ : ∃ D, decide ((k : Int) < nn) = D := ⟨_, rfl⟩
    clear hRel hR hSer hRB hs0 hno hst hxs
    cases D
    ·go_wp2_with fail
     (try go_ret2)
     exact HFF.out
    ·go_wp2_with fail
     (try go_ret2)
     exact HFF.out
   ·have hbad : bad = false := by
     cases bad with
     | false => rfl
     | true => rw [hs0] at hst; simp at hst
    subst hbad
    by_cases hlt : (k : Int) < nn ∧ k < 1001
    ·have d1 : decide ((k : Int) < nn) = true := decide_eq_true hlt.1
     have d2 : decide ((k : Int) < 1001) = true := decide_eq_true (by omega)
     obtain ⟨f, hf⟩ : ∃ f, nn.toNat - k = f + 1 := ⟨nn.toNat - k - 1, by omega⟩
     rw [hf] at hinv
     have HF1 := hid hf
     have HK1001 := hid hlt.2
     have HINV := hid hinv
     have HBD := hid hbd
     have HCn := hid (rnum_any w wr R (.slice x0 LN y0) BS st hR.out HL5.out)
     have hS0 := hs0
     clear hRel hRB hs0 hinv hbd hst hxs hlt
     go_wp2_with fail
     refine HCn.out.mono ?_
     rintro e w1 ⟨kk, s1, rfl, hn1, hr1, ho1⟩
     have HSer1 := hid (hSer.out.only ho1 (fun j hj _ e => by omega))
     rw [hS0] at hn1
     have HST := hid hS0
     clear hS0 hSer hR HCn ho1 r2
     rcases numD_from hn1 with ⟨hs1, e1⟩ | ⟨k1, e1, hs1⟩
     ·obtain ⟨pos1, bad1, _, hRB1, _, hK1, _, hst1⟩ := hr1
      have hb1 : bad1 = true := by
       cases bad1 with
       | true => rfl
       | false => rw [hs1] at hst1; simp at hst1
      subst hb1
      have HNO := hid ((invB_lab HINV.out).1 (labK_num e1))
      have q0 := hRB1.cell 0 rfl
      have q1 := hRB1.cell 1 rfl
      have q2 := hRB1.cell 2 rfl
      have HK1 := hid hK1
      clear hRB1 hst1 e1 hs1 hn1 hK1
      go_wp2_with fail
      go_quiet (fail)
      have HFF := hid (HRET.out (w1.drewN nq) (Go.Proofs.YthpkkhmplkmdnaaGreatDoor.G.kept_drewN HK1.out nq) HNO.out)
      go_wp2_with fail
      (try go_ret2)
      exact HFF.out
     ·obtain ⟨pos1, bad1, hpos1, hRB1, hsrc1, hK1, hle1, hst1⟩ := hr1
      have hb1 : bad1 = false := by
       cases bad1 with
       | false => rfl
       | true => rw [hs1] at hst1; simp at hst1
      subst hb1
      have hrd : rest.drop k1 = BS.drop pos1 := by
       rw [hs1] at hst1
       simpa using hst1
      have q0 := hRB1.cell 0 rfl
      have q1 := hRB1.cell 1 rfl
      have q2 := hRB1.cell 2 rfl
      have f1 := hRB1.frozen 1
      have HK1 := hid hK1
      have hposn : pos1 ≤ LN := by have := HLB.out; omega
      have hln1 : (rest.drop k1).length = LN - pos1 := by rw [hrd, List.length_drop]; have := HLB.out; omega
      by_cases hsh : kk < 0 ∨ (LN : Int) - (pos1 : Int) < kk
      ·have HNO := hid ((invB_lab HINV.out).1 (labK_short e1 (by rw [hln1]; omega)))
       have wl1 : wrap64 ((LN : Int) - (pos1 : Int)) = (LN : Int) - (pos1 : Int) := by unfold wrap64; omega
       have hx : (kk < 0) = True ∨ ((kk < 0) = False ∧ ((LN : Int) - (pos1 : Int) < kk) = True) := by
        by_cases h : kk < 0
        ·exact .inl (eq_true h)
        ·exact .inr ⟨eq_false h, eq_true (by omega)⟩
       clear hRB1 hst1 e1 hs1 hn1 hK1 hsrc1 hsh hrd hln1
       rcases hx with hx | ⟨hx, hx2⟩
       ·go_wp2_with fail
        go_quiet (fail)
        have HFF := hid (HRET.out (w1.drewN nq) (Go.Proofs.YthpkkhmplkmdnaaGreatDoor.G.kept_drewN HK1.out nq) HNO.out)
        go_wp2_with fail
        (try go_ret2)
        exact HFF.out
       ·go_wp2_with fail
        go_quiet (fail)
        have HFF := hid (HRET.out (w1.drewN nq) (Go.Proofs.YthpkkhmplkmdnaaGreatDoor.G.kept_drewN HK1.out nq) HNO.out)
        go_wp2_with fail
        (try go_ret2)
        exact HFF.out
      ·obtain ⟨KN, hKN⟩ := ar_nat hsh
       subst hKN
       have hKL : KN ≤ LN - pos1 := ar_kl hsh hposn
       have hKs : KN ≤ 100000 := ar_small hKL hLs
       have wl1 : wrap64 ((LN : Int) - (pos1 : Int)) = (LN : Int) - (pos1 : Int) := ar_wrap (ar_b1 hLs hposn).1 (ar_b1 hLs hposn).2
       have wl2 : wrap64 ((pos1 : Int) + (KN : Int)) = (pos1 : Int) + (KN : Int) := ar_wrap (ar_b2 hLs hposn hKs).1 (ar_b2 hLs hposn hKs).2
       have wl3 : IntKind.i64.wrap ((pos1 : Int) + (KN : Int)) = (pos1 : Int) + (KN : Int) := (Go.IntWalk.i64_left _).trans wl2
       obtain ⟨hx, hx2⟩ := ar_f1 hsh
       obtain ⟨a6, c6, s6, b6⟩ := (hsrc1.stay hK1).sub (lo := pos1) (hi := pos1 + KN) ar_le (ar_sum hKL hposn HLB.out)
       have hTB : (BS.take (pos1 + KN)).drop pos1 = (rest.drop k1).take KN := by
        rw [hrd, List.drop_take, ar_take]
       rw [hTB, Nat.add_sub_cancel_left] at b6
       rw [Nat.add_sub_cancel_left] at s6
       have s6' : ∀ W, (Instr.sliceAt 28 (.slice x0 LN y0) (some (.int .i64 (pos1 : Int))) (some (.int .i64 ((pos1 : Int) + (KN : Int)))) none).run Tryz.prog W = .ok (.slice a6 KN c6) W := s6
       have HB6 := hid b6
       have HS6 := hid s6'
       have HBLK1 := hid hRB1
       have HLK := hid (labK_parse e1 (by rw [hln1]; exact hKL))
       have HE1 := hid e1
       have HRD := hid hrd
       clear hst1 e1 hs1 hn1 hK1 hsrc1 hsh hln1 s6 s6' b6 hTB hRB1
       go_wp2_with fail
       go_quiet (fail)
       have kq : Kept w1 (w1.drewN nq) := Go.Proofs.YthpkkhmplkmdnaaGreatDoor.G.kept_drewN (Only.refl _ w1) nq
       have hB5 : Blk (w1.drewN nq) R [.slice x0 LN y0, .int .i64 (pos1 : Int), .bool false] 73 := kq.blk HBLK1.out (fun f => f)
       have hS5 := HSer1.out.stay kq
       have cv6 := G.bytes_str (HB6.out.1.stay kq)
       have hK5 := HK1.out.trans kq (fun _ _ f => f)
       generalize w1.drewN nq = w5 at kq hB5 hS5 cv6 hK5 ⊢
       obtain ⟨sT, hsT⟩ : ∃ sT, (⟨((rest.drop k1).take KN).toArray⟩ : ByteArray) = sT := ⟨_, rfl⟩
       rw [hsT] at cv6
       have hsz : sT.data.toList = (rest.drop k1).take KN := by rw [← hsT]
       have hszl : sT.size ≤ 100000 := by
        rw [← hsT]
        exact Nat.le_trans (List.length_take_le KN _) hKs
       have p0 := hB5.cell 0 rfl
       have p1 := hB5.cell 1 rfl
       have p2 := hB5.cell 2 rfl
       have HSZ := hid hsz
       have HSZL := hid hszl
       have HSR5 := hid (HB6.out.1.stay kq)
       have HST5 := hid hsT
       have HB5' := hid hB5
       have HS5 := hid hS5
       have HK5 := hid hK5
       clear q0 q1 q2 f1 hsT hsz hszl kq hB5 hS5 hK5 HSer1 HB6 HK1 HBLK1
       have HA5 : Hid (∀ X, X = w5.drew → (X.cell? ⟨R, 0, none⟩ = some (.slice x0 LN y0) ∧ X.cell? ⟨R, 1, none⟩ = some (.int .i64 (pos1 : Int))) ∧ (convert 28 9 (.slice a6 KN c6)).run Tryz.prog X = .ok (.string sT) X) := hid (fun X e => by
        subst e
        exact ⟨⟨p0, p1⟩, by
         have := G.bytes_str ((HSR5.out).stay ((Only.refl (fun _ => False) w5).drew))
         rw [HST5.out] at this
         exact this⟩)
       go_wp2_with fail
       have rs6 := HS6.out
       have hS : (fun w' : World => w' = w5.drew) w5.drew := rfl
       refine wp_region_noPanic ?_
       refine wp_region_last (L := 1000) (S := fun w' => w' = w5.drew) (by kernel_rfl) ?_
       refine wpAnyN_take (i := 0) (v := .pointer (some ⟨R, 0, none⟩)) rfl (by kernel_rfl) (by kernel_rfl) (by kernel_rfl) (by decide) (by kernel_rfl) (fun _ _ _ h => h) (Or.inl ⟨by kernel_rfl, ?_⟩) hS ?_
       ·(intro w' hSw; obtain ⟨⟨z0, z1⟩, z2⟩ := HA5.out w' hSw; clear hSw; go_simp)
       (try simp only [List.getElem_toArray, List.getElem_cons_succ, List.getElem_cons_zero])
       go_frame
       refine wpAnyN_take (i := 1) (v := .pointer (some ⟨R, 0, none⟩)) rfl (by kernel_rfl) (by kernel_rfl) (by kernel_rfl) (by decide) (by kernel_rfl) (fun _ _ _ h => h) (Or.inl ⟨by kernel_rfl, ?_⟩) hS ?_
       ·(intro w' hSw; obtain ⟨⟨z0, z1⟩, z2⟩ := HA5.out w' hSw; clear hSw; go_simp)
       (try simp only [List.getElem_toArray, List.getElem_cons_succ, List.getElem_cons_zero])
       go_frame
       refine wpAnyN_take (i := 2) (v := .pointer (some ⟨R, 0, none⟩)) rfl (by kernel_rfl) (by kernel_rfl) (by kernel_rfl) (by decide) (by kernel_rfl) (fun _ _ _ h => h) (Or.inl ⟨by kernel_rfl, ?_⟩) hS ?_
       ·(intro w' hSw; obtain ⟨⟨z0, z1⟩, z2⟩ := HA5.out w' hSw; clear hSw; go_simp)
       (try simp only [List.getElem_toArray, List.getElem_cons_succ, List.getElem_cons_zero])
       go_frame
       refine wpAnyN_take (i := 3) (v := .slice x0 LN y0) rfl (by kernel_rfl) (by kernel_rfl) (by kernel_rfl) (by decide) (by kernel_rfl) (fun _ _ _ h => h) (Or.inl ⟨by kernel_rfl, ?_⟩) hS ?_
       ·(intro w' hSw; obtain ⟨⟨z0, z1⟩, z2⟩ := HA5.out w' hSw; clear hSw; go_simp)
       (try simp only [List.getElem_toArray, List.getElem_cons_succ, List.getElem_cons_zero])
       go_frame
       refine wpAnyN_take (i := 4) (v := .pointer (some ⟨R, 0, none⟩)) rfl (by kernel_rfl) (by kernel_rfl) (by kernel_rfl) (by decide) (by kernel_rfl) (fun _ _ _ h => h) (Or.inl ⟨by kernel_rfl, ?_⟩) hS ?_
       ·(intro w' hSw; obtain ⟨⟨z0, z1⟩, z2⟩ := HA5.out w' hSw; clear hSw; go_simp)
       (try simp only [List.getElem_toArray, List.getElem_cons_succ, List.getElem_cons_zero])
       go_frame
       refine wpAnyN_take (i := 5) (v := .pointer (some ⟨R, 0, none⟩)) rfl (by kernel_rfl) (by kernel_rfl) (by kernel_rfl) (by decide) (by kernel_rfl) (fun _ _ _ h => h) (Or.inl ⟨by kernel_rfl, ?_⟩) hS ?_
       ·(intro w' hSw; obtain ⟨⟨z0, z1⟩, z2⟩ := HA5.out w' hSw; clear hSw; go_simp)
       (try simp only [List.getElem_toArray, List.getElem_cons_succ, List.getElem_cons_zero])
       go_frame
       refine wpAnyN_take (i := 6) (v := .pointer (some ⟨R, 1, none⟩)) rfl (by kernel_rfl) (by kernel_rfl) (by kernel_rfl) (by decide) (by kernel_rfl) (fun _ _ _ h => h) (Or.inl ⟨by kernel_rfl, ?_⟩) hS ?_
       ·(intro w' hSw; obtain ⟨⟨z0, z1⟩, z2⟩ := HA5.out w' hSw; clear hSw; go_simp)
       (try simp only [List.getElem_toArray, List.getElem_cons_succ, List.getElem_cons_zero])
       go_frame
       refine wpAnyN_take (i := 7) (v := .int .i64 (pos1 : Int)) rfl (by kernel_rfl) (by kernel_rfl) (by kernel_rfl) (by decide) (by kernel_rfl) (fun _ _ _ h => h) (Or.inl ⟨by kernel_rfl, ?_⟩) hS ?_
       ·(intro w' hSw; obtain ⟨⟨z0, z1⟩, z2⟩ := HA5.out w' hSw; clear hSw; go_simp)
       (try simp only [List.getElem_toArray, List.getElem_cons_succ, List.getElem_cons_zero])
       go_frame
       refine wpAnyN_take (i := 8) (v := .pointer (some ⟨R, 0, none⟩)) rfl (by kernel_rfl) (by kernel_rfl) (by kernel_rfl) (by decide) (by kernel_rfl) (fun _ _ _ h => h) (Or.inl ⟨by kernel_rfl, ?_⟩) hS ?_
       ·(intro w' hSw; obtain ⟨⟨z0, z1⟩, z2⟩ := HA5.out w' hSw; clear hSw; go_simp)
       (try simp only [List.getElem_toArray, List.getElem_cons_succ, List.getElem_cons_zero])
       go_frame
       refine wpAnyN_take (i := 9) (v := .pointer (some ⟨R, 0, none⟩)) rfl (by kernel_rfl) (by kernel_rfl) (by kernel_rfl) (by decide) (by kernel_rfl) (fun _ _ _ h => h) (Or.inl ⟨by kernel_rfl, ?_⟩) hS ?_
       ·(intro w' hSw; obtain ⟨⟨z0, z1⟩, z2⟩ := HA5.out w' hSw; clear hSw; go_simp)
       (try simp only [List.getElem_toArray, List.getElem_cons_succ, List.getElem_cons_zero])
       go_frame
       refine wpAnyN_take (i := 10) (v := .pointer (some ⟨R, 1, none⟩)) rfl (by kernel_rfl) (by kernel_rfl) (by kernel_rfl) (by decide) (by kernel_rfl) (fun _ _ _ h => h) (Or.inl ⟨by kernel_rfl, ?_⟩) hS ?_
       ·(intro w' hSw; obtain ⟨⟨z0, z1⟩, z2⟩ := HA5.out w' hSw; clear hSw; go_simp)
       (try simp only [List.getElem_toArray, List.getElem_cons_succ, List.getElem_cons_zero])
       go_frame
       refine wpAnyN_take (i := 11) (v := .int .i64 (pos1 : Int)) rfl (by kernel_rfl) (by kernel_rfl) (by kernel_rfl) (by decide) (by kernel_rfl) (fun _ _ _ h => h) (Or.inl ⟨by kernel_rfl, ?_⟩) hS ?_
       ·(intro w' hSw; obtain ⟨⟨z0, z1⟩, z2⟩ := HA5.out w' hSw; clear hSw; go_simp)
       (try simp only [List.getElem_toArray, List.getElem_cons_succ, List.getElem_cons_zero])
       go_frame
       refine wpAnyN_take (i := 12) (v := .int .i64 (KN : Int)) rfl (by kernel_rfl) (by kernel_rfl) (by kernel_rfl) (by decide) (by kernel_rfl) (fun _ _ _ h => h) (Or.inl ⟨by kernel_rfl, ?_⟩) hS ?_
       ·(intro w' hSw; obtain ⟨⟨z0, z1⟩, z2⟩ := HA5.out w' hSw; clear hSw; go_simp)
       (try simp only [List.getElem_toArray, List.getElem_cons_succ, List.getElem_cons_zero])
       go_frame
       refine wpAnyN_take (i := 13) (v := .int .i64 ((pos1 : Int) + (KN : Int))) rfl (by kernel_rfl) (by kernel_rfl) (by kernel_rfl) (by decide) (by kernel_rfl) (fun _ _ _ h => h) (Or.inl ⟨by kernel_rfl, ?_⟩) hS ?_
       ·(intro w' hSw; obtain ⟨⟨z0, z1⟩, z2⟩ := HA5.out w' hSw; clear hSw; go_simp)
       (try simp only [List.getElem_toArray, List.getElem_cons_succ, List.getElem_cons_zero])
       go_frame
       refine wpAnyN_take (i := 14) (v := .slice a6 KN c6) rfl (by kernel_rfl) (by kernel_rfl) (by kernel_rfl) (by decide) (by kernel_rfl) (fun _ _ _ h => h) (Or.inl ⟨by kernel_rfl, ?_⟩) hS ?_
       ·(intro w' hSw; obtain ⟨⟨z0, z1⟩, z2⟩ := HA5.out w' hSw; clear hSw; go_simp)
       (try simp only [List.getElem_toArray, List.getElem_cons_succ, List.getElem_cons_zero])
       go_frame
       refine wpAnyN_take (i := 15) (v := .string sT) rfl (by kernel_rfl) (by kernel_rfl) (by kernel_rfl) (by decide) (by kernel_rfl) (fun _ _ _ h => h) (Or.inl ⟨by kernel_rfl, ?_⟩) hS ?_
       ·(intro w' hSw; obtain ⟨⟨z0, z1⟩, z2⟩ := HA5.out w' hSw; clear hSw; go_simp)
       (try simp only [List.getElem_toArray, List.getElem_cons_succ, List.getElem_cons_zero])
       go_frame
       refine wpAnyN_take (i := 16) (v := .string sT) rfl (by kernel_rfl) (by kernel_rfl) (by kernel_rfl) (by decide) (by kernel_rfl) (fun _ _ _ h => h) (Or.inl ⟨by kernel_rfl, ?_⟩) hS ?_
       ·(intro w' hSw; obtain ⟨⟨z0, z1⟩, z2⟩ := HA5.out w' hSw; clear hSw; go_simp)
       (try simp only [List.getElem_toArray, List.getElem_cons_succ, List.getElem_cons_zero])
       go_frame
       refine wpAnyN_done (by kernel_rfl) ?_
       refine NoPanic.normal ?_
       clear hS
       have kq : Kept w5 w5.drew := (Only.refl _ w5).drew
       have hB6 : Blk w5.drew R [.slice x0 LN y0, .int .i64 (pos1 : Int), .bool false] 73 := kq.blk HB5'.out (fun f => f)
       have hS6 := HS5.out.stay kq
       have hK6 := HK5.out.trans kq (fun _ _ f => f)
       generalize w5.drew = w6 at kq hB6 hS6 hK6 ⊢
       have p0 := hB6.cell 0 rfl
       have p1 := hB6.cell 1 rfl
       have p2 := hB6.cell 2 rfl
       have f1 := hB6.frozen 1
       have hRd7 : RdD w (w6.setCell ⟨R, 1, none⟩ (.int .i64 ((pos1 + KN : Nat) : Int))) R (.slice x0 LN y0) BS (some (BS.drop (pos1 + KN))) := RdD.step hB6 HB5.out hK6 (Nat.le_of_eq HRR.out) (ar_sum hKL hposn HLB.out) rfl
       rw [Int.natCast_add] at hRd7
       have hS7 : SerAt (w6.setCell ⟨R, 1, none⟩ (.int .i64 ((pos1 : Int) + (KN : Int)))) (R + 1) (.slice la k lc) xs := hS6.only ((Only.refl (fun j => j = R) w6).setCell (p := ⟨R, 1, none⟩) (fun _ => rfl) _) (fun j hj _ e => ar_ne hj e)
       have hlt7 : R + 1 ≤ w6.heap.size := hB6.lt
       obtain ⟨w7, hw7⟩ : ∃ w7, w6.setCell ⟨R, 1, none⟩ (.int .i64 ((pos1 : Int) + (KN : Int))) = w7 := ⟨_, rfl⟩
       have hz7 : R + 1 ≤ w7.heap.size := by rw [← hw7]; simpa using hlt7
       rw [hw7] at hRd7 hS7
       have HRd7 := hid hRd7
       have HS7 := hid hS7
       have HUN := hid (SerAt.under hS7)
       have HW7 := hid hw7
       have HZ7 := hid hz7
       have HPA := hid (Go.Proofs.YthpkkhmplkmdnaaGreatDoor.N.rparse_any w7 sT HSZL.out)
       rw [HSZ.out] at HPA
       clear kq hB6 hS6 hK6 hRd7 hS7 hlt7 hw7 hz7 HB5' HS5 HK5
       go_wp2_with fail
       rw [HW7.out]
       go_wp2_with fail
       refine HPA.out.mono ?_
       rintro e w8 ⟨⟨pu, pn, rfl, hpa⟩, k8⟩
       have hRd8 := HRd7.out.only k8 (fun f => f) (fun _ f => f.elim)
       have HS8 := hid (HS7.out.stay k8)
       have HZ8 := hid k8.size
       have HNM := hid (rnum_any w w8 R (.slice x0 LN y0) BS _ hRd8 HL5.out)
       have hpu : ∃ pa pl pc, pu = .slice pa pl pc := by
        cases hx : Go.Proofs.YthpkkhmplkmdnaaGreatDoor.N.rparseL ((rest.drop k1).take KN) with
        | none => rw [hx] at hpa; exact ⟨none, 0, 0, hpa.2⟩
        | some m => rw [hx] at hpa; obtain ⟨a, c, e⟩ := hpa.2.src.len; exact ⟨a, _, c, e⟩
       obtain ⟨pa, pl, pc, rfl⟩ := hpu
       have HPAR := hid hpa
       clear hpa k8 hRd8 HPA HRd7 HS7 p0 p1 p2 f1
       go_wp2_with fail
       refine HNM.out.mono ?_
       rintro e w9 ⟨mm, s9, rfl, hn9, hr9, ho9⟩
       have HSer9 := hid (HS8.out.only ho9 (fun j hj _ e => ar_ne hj e))
       have HZ9 := hid (Nat.le_trans HZ8.out ho9.size)
       have HO9 := hid ho9
       obtain ⟨pos9, bad9, hpos9, hRB9, hsrc9, hK9, hle9, hst9⟩ := hr9
       have q0 := hRB9.cell 0 rfl
       have q1 := hRB9.cell 1 rfl
       have q2 := hRB9.cell 2 rfl
       cases hx9 : Go.Proofs.YthpkkhmplkmdnaaGreatDoor.N.rparseL ((rest.drop k1).take KN) with
       | none =>
        have hpn : pn = 4 := by have h := HPAR.out; rw [hx9] at h; exact h.1
        subst hpn
        have HFF := hid (HRET.out w9 hK9 ((invB_lab HINV.out).1 (lab_map0 HLK.out hx9)))
        clear hn9 ho9 hRB9 hst9 hK9 hsrc9 q0 q1 q2 hx9
        go_wp2_with fail
        (try go_ret2)
        exact HFF.out
       | some labs =>
        have hpn : pn = 0 := by have h := HPAR.out; rw [hx9] at h; exact h.1
        have HLAB : Hid (Go.Proofs.YthpkkhmplkmdnaaGreatDoor.N.LabAt w8 w7.heap.size (.slice pa pl pc) labs) := hid (by have h := HPAR.out; rw [hx9] at h; exact h.2)
        subst hpn
        have HLK2 := hid (lab_map HLK.out hx9 HRD.out)
        have HI := hid ((invB_lab HINV.out).2 labs _ HLK2.out)
        clear hx9
        rcases numD_from hn9 with ⟨hs9, e9⟩ | ⟨k9, e9, hs9⟩
        ·have hb9 : bad9 = true := bad_true hst9 hs9
         subst hb9
         have HFF := hid (HRET.out w9 hK9 (HI.out.1 e9))
         clear hn9 ho9 hRB9 hst9 hK9 hsrc9 e9 hs9
         go_wp2_with fail
         (try go_ret2)
         exact HFF.out
        ·obtain ⟨hb9, hdr9⟩ := bad_false hst9 hs9
         subst hb9
         by_cases hsh9 : mm < 0 ∨ (LN : Int) < mm
         ·have HFF := hid (HRET.out w9 hK9 ((HI.out.2 mm k9 e9).1 (ar_more HLB.out hsh9)))
          have hx9 := ar_or hsh9
          clear hn9 ho9 hRB9 hst9 hK9 hsrc9 e9 hs9 hsh9 hdr9
          rcases hx9 with hx9 | ⟨hx9, hx92⟩
          ·go_wp2_with fail
           (try go_ret2)
           exact HFF.out
          ·go_wp2_with fail
           (try go_ret2)
           exact HFF.out
         ·obtain ⟨hx9, hx92⟩ := ar_f2 hsh9
          obtain ⟨MM, hMM⟩ := ar_nat hsh9
          subst hMM
          have HRB9 := hid hRB9
          have HK9 := hid hK9
          have HE9 := hid e9
          have HDR9 := hid hdr9
          have HP9 := hid hpos9
          have hMs := ar_ms hsh9 hLs
          have HL20 := hid (L2.start (lv := .slice pa pl pc) hRB9 HB5.out hK9 hle9 hpos9 HO9.out)
          have HIC := hid (invC_start ((HI.out.2 (MM : Int) k9 e9).2) hdr9)
          have HBC0 := bdC_start HBD.out (Nat.le_trans hLs (by decide)) HLK2.out e9
          rw [hdr9] at HBC0
          have HBC := hid HBC0
          have HZ89 := hid ho9.size
          have HRX := hid hRB9.lt
          clear hn9 ho9 hRB9 hst9 hK9 hsrc9 e9 hs9 hsh9 hdr9 hpos9 HBC0 HPAR HRB9 HK9 HE9 HDR9 HP9 HI HSR5 HST5 HA5 HSZ HSZL HLK HLK2 HE1 HRD HSer9 HST HNM
          clear cv6 p0 p1 p2 wl1 wl2 wl3 hx hx2 hrd rs6 HS6 HINV HF1
          go_wp2_with fail
          go_loopw [14] (fun s14 wr => ∃ (c : Nat) (sv : Value) (sacc : C.Smps) (rest2 : List UInt8), c ≤ MM ∧ s14 = .int .i64 (c : Int) ∧ Hid (L2 w w8 w9 wr R (.slice x0 LN y0) (.slice pa pl pc) sv BS sacc rest2) ∧ Hid (InvC BS f (MM - c) (xs.map SV.ser) labs sacc rest2) ∧ Hid (BdC LN (xs.map SV.ser) labs sacc rest2)) (fun s14 _ => MM - (intOf s14).toNat)
          case atStart => exact ⟨0, _, [], _, Nat.zero_le _, rfl, HL20, HIC, HBC⟩
          case round =>
           clear HL20 HIC HBC q0 q1 q2
           obtain ⟨c, sv, sacc, rest2, hc, rfl, hL2, hIC, hBC⟩ := hrel
           by_cases hcl : c < MM
           ·obtain ⟨g, hg, hg1⟩ := ar_pred hcl
            have d3 : decide ((c : Int) < (MM : Int)) = true := decide_eq_true (Int.ofNat_lt.2 hcl)
            have hc5 : c ≤ 10000 := Nat.le_trans hc hMs
            obtain ⟨pos2, bad2, hpos2, hRB2, hsrc2, hK2, hle2, hst2⟩ := hL2.out.rd
            obtain ⟨hb2, hd2⟩ := bad_false hst2 rfl
            subst hb2
            subst hd2
            obtain ⟨a7, c7, s7, b7⟩ := C.BSrc.tail (show C.BSrc w (.slice x0 LN y0) BS from hsrc2) (lo := pos2) hpos2
            obtain ⟨ML, hML⟩ : ∃ ML, BS.length - pos2 = ML := ⟨_, rfl⟩
            rw [hML] at s7 b7
            have HS7' := hid s7
            have kd : Kept wr wr.drew := (Only.refl _ wr).drew
            have HKD := hid kd
            have HRC := hid (C.rreadchunk_any wr.drew (.slice a7 ML c7) (BS.drop pos2) ((b7.stay hK2).stay kd) (drop_le HL5.out))
            have HA7 : Hid (∀ X, Kept wr X → X.cell? ⟨R, 0, none⟩ = some (.slice x0 LN y0) ∧ X.cell? ⟨R, 1, none⟩ = some (.int .i64 (pos2 : Int))) := hid (fun X kx => ⟨(Only.blk kx hRB2 (fun f => f)).cell 0 rfl, (Only.blk kx hRB2 (fun f => f)).cell 1 rfl⟩)
            have HRB2 := hid hRB2
            have HP2 := hid hpos2
            have HK2 := hid hK2
            have HG := hid hg
            clear hst2 hsrc2 hRB2 s7 b7 hML hK2 hle2 hpos2 kd hg
            go_wp2_with fail
            have rs7 := HS7'.out
            have hS : (fun w' : World => Kept wr w') wr.drew := HKD.out
            refine wp_region_noPanic ?_
            refine wp_region_last (L := 1000) (S := fun w' => Kept wr w') (by kernel_rfl) ?_
            refine wpAnyN_take (i := 0) (v := .pointer (some ⟨R, 0, none⟩)) rfl (by kernel_rfl) (by kernel_rfl) (by kernel_rfl) (by decide) (by kernel_rfl) (fun _ _ _ h => h) (Or.inl ⟨by kernel_rfl, ?_⟩) hS ?_
            ·(intro w' hSw; obtain ⟨z0, z1⟩ := HA7.out w' hSw; clear hSw; go_simp)
            (try simp only [List.getElem_toArray, List.getElem_cons_succ, List.getElem_cons_zero])
            go_frame
            refine wpAnyN_take (i := 1) (v := .pointer (some ⟨R, 0, none⟩)) rfl (by kernel_rfl) (by kernel_rfl) (by kernel_rfl) (by decide) (by kernel_rfl) (fun _ _ _ h => h) (Or.inl ⟨by kernel_rfl, ?_⟩) hS ?_
            ·(intro w' hSw; obtain ⟨z0, z1⟩ := HA7.out w' hSw; clear hSw; go_simp)
            (try simp only [List.getElem_toArray, List.getElem_cons_succ, List.getElem_cons_zero])
            go_frame
            refine wpAnyN_take (i := 2) (v := .pointer (some ⟨R, 0, none⟩)) rfl (by kernel_rfl) (by kernel_rfl) (by kernel_rfl) (by decide) (by kernel_rfl) (fun _ _ _ h => h) (Or.inl ⟨by kernel_rfl, ?_⟩) hS ?_
            ·(intro w' hSw; obtain ⟨z0, z1⟩ := HA7.out w' hSw; clear hSw; go_simp)
            (try simp only [List.getElem_toArray, List.getElem_cons_succ, List.getElem_cons_zero])
            go_frame
            refine wpAnyN_take (i := 3) (v := .slice x0 LN y0) rfl (by kernel_rfl) (by kernel_rfl) (by kernel_rfl) (by decide) (by kernel_rfl) (fun _ _ _ h => h) (Or.inl ⟨by kernel_rfl, ?_⟩) hS ?_
            ·(intro w' hSw; obtain ⟨z0, z1⟩ := HA7.out w' hSw; clear hSw; go_simp)
            (try simp only [List.getElem_toArray, List.getElem_cons_succ, List.getElem_cons_zero])
            go_frame
            refine wpAnyN_take (i := 4) (v := .pointer (some ⟨R, 0, none⟩)) rfl (by kernel_rfl) (by kernel_rfl) (by kernel_rfl) (by decide) (by kernel_rfl) (fun _ _ _ h => h) (Or.inl ⟨by kernel_rfl, ?_⟩) hS ?_
            ·(intro w' hSw; obtain ⟨z0, z1⟩ := HA7.out w' hSw; clear hSw; go_simp)
            (try simp only [List.getElem_toArray, List.getElem_cons_succ, List.getElem_cons_zero])
            go_frame
            refine wpAnyN_take (i := 5) (v := .pointer (some ⟨R, 0, none⟩)) rfl (by kernel_rfl) (by kernel_rfl) (by kernel_rfl) (by decide) (by kernel_rfl) (fun _ _ _ h => h) (Or.inl ⟨by kernel_rfl, ?_⟩) hS ?_
            ·(intro w' hSw; obtain ⟨z0, z1⟩ := HA7.out w' hSw; clear hSw; go_simp)
            (try simp only [List.getElem_toArray, List.getElem_cons_succ, List.getElem_cons_zero])
            go_frame
            refine wpAnyN_take (i := 6) (v := .pointer (some ⟨R, 1, none⟩)) rfl (by kernel_rfl) (by kernel_rfl) (by kernel_rfl) (by decide) (by kernel_rfl) (fun _ _ _ h => h) (Or.inl ⟨by kernel_rfl, ?_⟩) hS ?_
            ·(intro w' hSw; obtain ⟨z0, z1⟩ := HA7.out w' hSw; clear hSw; go_simp)
            (try simp only [List.getElem_toArray, List.getElem_cons_succ, List.getElem_cons_zero])
            go_frame
            refine wpAnyN_take (i := 7) (v := .int .i64 (pos2 : Int)) rfl (by kernel_rfl) (by kernel_rfl) (by kernel_rfl) (by decide) (by kernel_rfl) (fun _ _ _ h => h) (Or.inl ⟨by kernel_rfl, ?_⟩) hS ?_
            ·(intro w' hSw; obtain ⟨z0, z1⟩ := HA7.out w' hSw; clear hSw; go_simp)
            (try simp only [List.getElem_toArray, List.getElem_cons_succ, List.getElem_cons_zero])
            go_frame
            refine wpAnyN_take (i := 8) (v := .slice a7 ML c7) rfl (by kernel_rfl) (by kernel_rfl) (by kernel_rfl) (by decide) (by kernel_rfl) (fun _ _ _ h => h) (Or.inl ⟨by kernel_rfl, ?_⟩) hS ?_
            ·(intro w' hSw; obtain ⟨z0, z1⟩ := HA7.out w' hSw; clear hSw; go_simp)
            (try simp only [List.getElem_toArray, List.getElem_cons_succ, List.getElem_cons_zero])
            go_frame
            refine wpAnyL_one (i := 9) (by kernel_rfl) rfl (by kernel_rfl) ?_
            go_simp
            refine HRC.out.mono ?_
            rintro e wC ⟨kC, ps, n, u, x, rfl, hrd, hsm⟩
            have kC' : Kept wr wC := HKD.out.trans kC (fun _ _ f => f)
            refine ⟨kC', ?_⟩
            (try simp only [List.getElem_toArray, List.getElem_cons_succ, List.getElem_cons_zero])
            (try go_frame)
            have hS2 : (fun w' : World => Kept wr w') wC := kC'
            have HRDS := hid hrd
            have HSM := hid hsm
            have HKC := hid kC'
            clear hS hrd hsm kC kC' rs7 HS7' HRC
            refine wpAnyN_take (i := 10) (v := .tuple #[u, .int .i64 (n : Int), .int .i64 x]) rfl (by kernel_rfl) (by kernel_rfl) (by kernel_rfl) (by decide) (by kernel_rfl) (fun _ _ _ h => h) (Or.inl ⟨by kernel_rfl, ?_⟩) hS2 ?_
            ·(intro w' hSw; skip; go_simp)
            (try simp only [List.getElem_toArray, List.getElem_cons_succ, List.getElem_cons_zero])
            go_frame
            refine wpAnyN_take (i := 11) (v := u) rfl (by kernel_rfl) (by kernel_rfl) (by kernel_rfl) (by decide) (by kernel_rfl) (fun _ _ _ h => h) (Or.inl ⟨by kernel_rfl, ?_⟩) hS2 ?_
            ·(intro w' hSw; skip; go_simp)
            (try simp only [List.getElem_toArray, List.getElem_cons_succ, List.getElem_cons_zero])
            go_frame
            refine wpAnyN_take (i := 12) (v := .int .i64 (n : Int)) rfl (by kernel_rfl) (by kernel_rfl) (by kernel_rfl) (by decide) (by kernel_rfl) (fun _ _ _ h => h) (Or.inl ⟨by kernel_rfl, ?_⟩) hS2 ?_
            ·(intro w' hSw; skip; go_simp)
            (try simp only [List.getElem_toArray, List.getElem_cons_succ, List.getElem_cons_zero])
            go_frame
            refine wpAnyN_take (i := 13) (v := .int .i64 x) rfl (by kernel_rfl) (by kernel_rfl) (by kernel_rfl) (by decide) (by kernel_rfl) (fun _ _ _ h => h) (Or.inl ⟨by kernel_rfl, ?_⟩) hS2 ?_
            ·(intro w' hSw; skip; go_simp)
            (try simp only [List.getElem_toArray, List.getElem_cons_succ, List.getElem_cons_zero])
            go_frame
            refine wpAnyN_take (i := 14) (v := u) rfl (by kernel_rfl) (by kernel_rfl) (by kernel_rfl) (by decide) (by kernel_rfl) (fun _ _ _ h => h) (Or.inl ⟨by kernel_rfl, ?_⟩) hS2 ?_
            ·(intro w' hSw; skip; go_simp)
            (try simp only [List.getElem_toArray, List.getElem_cons_succ, List.getElem_cons_zero])
            go_frame
            refine wpAnyN_take (i := 15) (v := .int .i64 (n : Int)) rfl (by kernel_rfl) (by kernel_rfl) (by kernel_rfl) (by decide) (by kernel_rfl) (fun _ _ _ h => h) (Or.inl ⟨by kernel_rfl, ?_⟩) hS2 ?_
            ·(intro w' hSw; skip; go_simp)
            (try simp only [List.getElem_toArray, List.getElem_cons_succ, List.getElem_cons_zero])
            go_frame
            refine wpAnyN_take (i := 16) (v := .int .i64 x) rfl (by kernel_rfl) (by kernel_rfl) (by kernel_rfl) (by decide) (by kernel_rfl) (fun _ _ _ h => h) (Or.inl ⟨by kernel_rfl, ?_⟩) hS2 ?_
            ·(intro w' hSw; skip; go_simp)
            (try simp only [List.getElem_toArray, List.getElem_cons_succ, List.getElem_cons_zero])
            go_frame
            refine wpAnyN_done (by kernel_rfl) ?_
            refine NoPanic.normal ?_
            clear hS2
            have HCI := hid (invC_step (show InvC BS f (g + 1) (xs.map SV.ser) labs sacc (BS.drop pos2) from by rw [← HG.out]; exact hIC.out) HRDS.out)
            by_cases hx0 : x = 0
            ·subst hx0
             rcases reads_bounds HRDS.out with ⟨h5, _⟩ | ⟨_, hn, _, h120⟩
             ·exact absurd h5 (by decide)
             ·have HRBC := hid (Only.blk HKC.out HRB2.out (fun f => f))
              have hcell := HRBC.out.cell 1 rfl
              have hcel0 := HRBC.out.cell 0 rfl
              have hfrz := HRBC.out.frozen 1
              have wl4 := ar_w2 HP2.out hn HL5.out
              have wl5 : IntKind.i64.wrap ((pos2 : Int) + (n : Int)) = (pos2 : Int) + (n : Int) := (Go.IntWalk.i64_left _).trans wl4
              obtain ⟨qd, v', we, Hr, hbe, hL4⟩ := L2.add (hL2.out.stay HKC.out) HZ89.out HRX.out HRB2.out.lt HRBC.out HP2.out hn HSM.out (bdC_len hBC.out hLs h120)
              obtain ⟨ta, tc, hv4⟩ := ownN_slice hL4.smp
              obtain ⟨tn, htn⟩ : ∃ tn, (sacc ++ ps).length = tn := ⟨_, rfl⟩
              rw [htn] at hv4
              subst hv4
              have q5 := hbe.cell 1 rfl
              have f5 := hbe.frozen 1
              have HL4 := hid hL4
              have HCI2 := hid (HCI.out.2 rfl)
              have HBC4 := hid (bdC_step hBC.out HRDS.out)
              clear hbe hL4 hn h120 hL2 hIC hBC HCI HRDS HSM HA7 HRB2
              go_wp2_with (at_builtin; refine wpList_append_run rfl _ _ _ rfl rfl rfl Hr ?_)
              go_roundw
              case rel => exact ⟨c + 1, _, sacc ++ ps, _, hcl, (by first | rfl | go_num), HL4, (by rw [hg1]; exact HCI2), HBC4⟩
              case measure => first | exact ar_meas hcl | (simp [intOf]; exact ar_meas hcl)
            ·have hx1 : (x != 0) = true := ne_bool hx0
             have HFF := hid (HRET.out wC (HK2.out.trans HKC.out (fun _ _ f => f)) (HCI.out.1 hx0))
             clear hL2 hIC hBC HCI HRDS HSM HA7 HRB2 hx0
             go_wp2_with fail
             (try go_ret2)
             exact HFF.out
           ·have d3 := ar_f3 hcl
            have hIC0 := hIC.out
            rw [ar_zero hcl] at hIC0
            have b0 := hL2.out.blk.cell 0 rfl
            have b1 := hL2.out.blk.cell 1 rfl
            obtain ⟨v', wf, Hr, hS5, hRd5⟩ := L2.fin hL2.out HZ89.out HZ7.out HZ8.out HS8.out HUN.out HLAB.out (by rw [HXS.out]; exact Nat.le_trans hk (by decide)) hle9
            have hlen : (xs ++ [(⟨.slice pa pl pc, sv, labs, sacc⟩ : SV)]).length = k + 1 := by rw [List.length_append, HXS.out]; rfl
            obtain ⟨va, vc, hv'⟩ := ownN_slice hS5.row
            rw [hlen] at hv'
            subst hv'
            have HS5 := hid hS5
            have HRd5 := hid hRd5
            have HLEN := hid hlen
            have HNX := hid (rel_next (x := ⟨.slice pa pl pc, sv, labs, sacc⟩) hf (invC_end hIC0) (bdC_end hBC.out))
            clear hIC0 hS5 hRd5 hlen hL2 hIC hBC
            go_wp2_with (at_builtin; refine wpList_append_run rfl _ _ _ rfl rfl rfl Hr ?_)
            go_roundw
            case rel => exact ⟨k + 1, _, _, va, vc, HK1001.out, (by first | rfl | go_num), rfl, HLEN.out, HNX, HRd5, HS5⟩
            case measure => first | exact ar_meas HK1001.out | (simp [intOf]; exact ar_meas HK1001.out)
    ·have HALL := hid (all_of (by rw [List.length_map, hxs]) hk hkN hinv hlt)
     have hRe := bdB_reach hbd hLs
     have HBK := hid (rblock_any wr (.slice la k lc) (xs.map SV.ser) hSer.out.serIn hRe.len hRe.all hRe.tot)
     have HBDX := hid hbd
     have HL5X : Hid (LN ≤ 100000) := hid (Nat.le_trans hLs (by decide))
     have HSX := hid hSer.out
     have HKR := hid hR.out.kept
     have hcs := ar_u hlt
     clear hRel hR hSer hRB hs0 hkN hinv hbd hst hxs hlt hRe
     rcases hcs with d1 | ⟨d1, d2⟩
     ·go_wp2_with fail
      refine HBK.out.mono ?_
      rintro e wX ⟨kX, ⟨hck, rfl⟩ | ⟨hck, ba, bn, bc, rfl, hby⟩⟩
      ·have HFF := hid (HRET.out wX (HKR.out.trans kX (fun _ _ f => f)) (fun T hT => hck (by rw [← HALL.out T hT]; exact hT.2)))
       obtain ⟨X, hX⟩ : ∃ X, checkB (xs.map SV.ser) = X := ⟨_, rfl⟩
       rw [hX] at hck
       have hX0 : (X != 0) = true := ne_bool hck
       rw [hX]
       clear hck hX HBK kX
       go_wp2_with fail
       (try go_ret2)
       exact HFF.out
      ·have HKX := hid (HKR.out.trans kX (fun _ _ f => f))
       have HCK := hid hck
       have cv1 := G.bytes_str (own_src hby)
       have cv2 := G.bytes_str (HS.out.1.stay HKX.out)
       have hcmp := G.str_eq (blockB (xs.map SV.ser)) bs
       generalize (⟨(blockB (xs.map SV.ser)).toArray⟩ : ByteArray) = sA at cv1 hcmp
       generalize (⟨bs.toArray⟩ : ByteArray) = sB at cv2 hcmp
       by_cases heq : blockB (xs.map SV.ser) = bs
       ·have hc1 : (sA.toList == sB.toList) = true := by rw [hcmp]; exact decide_eq_true heq
        have HFF : Hid (PQ (.returned (.tuple #[.slice la k lc, .int .i64 0])) wX) := hid (by
         rw [← HPQ.out]
         exact ⟨HKX.out, .inr ⟨xs, _, readK_of HBDX.out HL5X.out HCK.out heq, rfl, (HSX.out.stay kX).base (le_base HRR.out)⟩⟩)
        clear hck hby heq HBK kX hcmp
        go_wp2_with fail
        (try go_ret2)
        exact HFF.out
       ·have hc1 : (sA.toList == sB.toList) = false := by rw [hcmp]; exact decide_eq_false heq
        have HFF := hid (HNIL.out wX HKX.out (fun l hr => heq (by
         have e := HALL.out l (by rw [← HBS.out]; exact isT_of HLN.out hr)
         obtain ⟨_, _, _, _, h4⟩ := hr
         rw [← e]; exact h4)))
        clear hck hby heq HBK kX hcmp
        go_wp2_with fail
        (try go_ret2)
        exact HFF.out
     ·go_wp2_with fail
      refine HBK.out.mono ?_
      rintro e wX ⟨kX, ⟨hck, rfl⟩ | ⟨hck, ba, bn, bc, rfl, hby⟩⟩
      ·have HFF := hid (HRET.out wX (HKR.out.trans kX (fun _ _ f => f)) (fun T hT => hck (by rw [← HALL.out T hT]; exact hT.2)))
       obtain ⟨X, hX⟩ : ∃ X, checkB (xs.map SV.ser) = X := ⟨_, rfl⟩
       rw [hX] at hck
       have hX0 : (X != 0) = true := ne_bool hck
       rw [hX]
       clear hck hX HBK kX
       go_wp2_with fail
       (try go_ret2)
       exact HFF.out
      ·have HKX := hid (HKR.out.trans kX (fun _ _ f => f))
       have HCK := hid hck
       have cv1 := G.bytes_str (own_src hby)
       have cv2 := G.bytes_str (HS.out.1.stay HKX.out)
       have hcmp := G.str_eq (blockB (xs.map SV.ser)) bs
       generalize (⟨(blockB (xs.map SV.ser)).toArray⟩ : ByteArray) = sA at cv1 hcmp
       generalize (⟨bs.toArray⟩ : ByteArray) = sB at cv2 hcmp
       by_cases heq : blockB (xs.map SV.ser) = bs
       ·have hc1 : (sA.toList == sB.toList) = true := by rw [hcmp]; exact decide_eq_true heq
        have HFF : Hid (PQ (.returned (.tuple #[.slice la k lc, .int .i64 0])) wX) := hid (by
         rw [← HPQ.out]
         exact ⟨HKX.out, .inr ⟨xs, _, readK_of HBDX.out HL5X.out HCK.out heq, rfl, (HSX.out.stay kX).base (le_base HRR.out)⟩⟩)
        clear hck hby heq HBK kX hcmp
        go_wp2_with fail
        (try go_ret2)
        exact HFF.out
       ·have hc1 : (sA.toList == sB.toList) = false := by rw [hcmp]; exact decide_eq_false heq
        have HFF := hid (HNIL.out wX HKX.out (fun l hr => heq (by
         have e := HALL.out l (by rw [← HBS.out]; exact isT_of HLN.out hr)
         obtain ⟨_, _, _, _, h4⟩ := hr
         rw [← e]; exact h4)))
        clear hck hby heq HBK kX hcmp
        go_wp2_with fail
        (try go_ret2)
        exact HFF.out
 ·have hne : (sa.toList == [76, 89, 83, 49]) = false := by
   rw [← hsa, ByteArray.toList_eq]
   simpa [markK] using hmk
  have HFF := hid (HNIL.out w (Only.refl _ _) (fun m hm => hmk (readK_mark hm).2))
  clear hl hPQ b5 hsa hmk hs1 hcap
  go_enter Tryz.func18, Tryz.ntmps18
  go_wp2_with fail
  (try rw [cv])
  (try go_simp)
  (try go_wp2_with fail)
  (try go_ret2)
  exact HFF.out
end Go.Proofs.YthpkkhmplkmdnaaGreatDoor.K
