/-
  Nref, Nput.
-/
import Derived.Test.YtllfanlhgnkcfaaGreatDoorQ21
import Derived.Deep.QuietTactic
namespace Go.Proofs.YtllfanlhgnkcfaaGreatDoor.N
open Go.RowKit Go.Proofs.Lys
set_option linter.unusedVariables false
set_option linter.unusedSimpArgs false
theorem kept_drewN {w wr : World} (h : Kept w wr) (n : Nat) : Kept w (wr.drewN n) := ⟨h.os, h.tape, h.output, h.size, h.block⟩
def plainAll (s : ByteArray) : Bool := s.data.toList.all plainB
set_option maxRecDepth 100000 in
set_option maxHeartbeats 1600000 in
theorem plain_any (w : World) (s : ByteArray) (hs : s.size ≤ 9223372036854775807) :
    Calls Tryz.prog 83 #[.string s] w fun e w' => e = .returned (.bool (plainAll s)) ∧ w' = w := by
  have HF : Hid (∀ k (hk : k < s.size), plainB (s[k]'hk) = false → plainAll s = false) := fun k hk h => by
    unfold plainAll
    cases e : s.data.toList.all plainB with
    | false => rfl
    | true =>
      have := List.all_eq_true.1 e _ (List.getElem_mem (show k < s.data.toList.length by rw [← Lib.size_eq]; exact hk))
      rw [at_list s k hk, h] at this
      cases this
  have HT : Hid ((∀ k (hk : k < s.size), plainB (s[k]'hk) = true) → plainAll s = true) := fun h => by
    unfold plainAll
    refine List.all_eq_true.2 (fun x hx => ?_)
    obtain ⟨k, hk, rfl⟩ := List.getElem_of_mem hx
    exact h k (by rw [Lib.size_eq]; exact hk)
  go_enter Tryz.func83, Tryz.ntmps83
  go_wp2
  go_loop [3] (fun i => ∃ (k : Nat), k ≤ s.size ∧ i = .int .i64 (k : Int) ∧ ∀ j (hj : j < s.size), j < k → plainB (s[j]'hj) = true) (fun i => s.size - (intOf i).toNat)
  case atStart => exact ⟨0, by omega, rfl, fun j _ h => absurd h (by omega)⟩
  case round =>
    obtain ⟨k, hk, rfl, hU⟩ := hrel
    have HU := hid hU
    clear hU
    by_cases hlt : k < s.size
    · have HS : Hid (plainB (s[k]'hlt) = true → ∀ j (hj : j < s.size), j < k + 1 → plainB (s[j]'hj) = true) := fun h j hj hjk => by
        by_cases e : j < k
        · exact HU.out j hj e
        · have : j = k := by omega
          subst this
          exact h
      have HB := hid (HF.out k hlt)
      have hcl := (s[k]'hlt).toNat_lt
      clear HU
      generalize hc : s[k]'hlt = c at HS HB hcl
      by_cases hl : (97 ≤ c.toNat ∧ c.toNat ≤ 122) ∨ (65 ≤ c.toNat ∧ c.toNat ≤ 90) ∨ c.toNat = 95
      · have hp := plain_of hl
        go_wp2
        all_goals first
          | exact ⟨⟨k + 1, by omega, by go_num, HS.out hp.1⟩, by simp [intOf]; omega⟩
          | (go_round
             case rel => exact ⟨k + 1, by omega, by go_num, HS.out hp.1⟩
             case measure => simp [intOf]; omega)
          | (exfalso; omega)
          | (exfalso; simp_all; omega)
      · by_cases hd : 48 ≤ c.toNat ∧ c.toNat ≤ 57
        · have hp := plain_dig hd
          go_wp2
          all_goals first
            | exact ⟨⟨k + 1, by omega, by go_num, HS.out hp.1⟩, by simp [intOf]; omega⟩
            | (go_round
               case rel => exact ⟨k + 1, by omega, by go_num, HS.out hp.1⟩
               case measure => simp [intOf]; omega)
            | (exfalso; omega)
            | (exfalso; simp_all; done)
            | (exfalso; simp_all; omega)
        · have hb := hid (HB.out (plain_no (by omega) (by omega) (by omega) hd))
          go_wp2
          all_goals first
            | (go_ret; exact ⟨by rw [hb.out]; rfl, rfl⟩)
            | (exfalso; omega)
            | (exfalso; simp_all; done)
            | (exfalso; simp_all; omega)
    · have e : k = s.size := by omega
      subst e
      have hok := hid (HT.out (fun j hj => HU.out j hj hj))
      go_wp2
      go_ret
      exact ⟨by rw [hok.out]; rfl, rfl⟩
theorem name_eq (s : ByteArray) (h0 : 0 < s.size) (h64 : s.size ≤ 64) : nameOk s = (!digitB (s[0]'h0) && plainAll s) := by
 have e2 : s.data.toList.headD 0 = s[0]'h0 := by
  have hl : 0 < s.data.toList.length := by rw [← Lib.size_eq]; exact h0
  rw [← at_list s 0 h0, List.headD_eq_head?_getD, List.head?_eq_getElem?, List.getElem?_eq_getElem hl]
  rfl
 unfold nameOk plainAll
 rw [e2, decide_eq_true h0, decide_eq_true h64, Bool.and_comm]
 simp
theorem not_empty {s : ByteArray} (h0 : ¬ s.size = 0) : s.toList.isEmpty = false := by
 rw [ByteArray.toList_eq]
 cases h : s.data.toList with
 | nil => exact absurd (by rw [Lib.size_eq, h]; rfl) h0
 | cons a r => rfl
set_option maxRecDepth 100000 in
set_option maxHeartbeats 1600000 in
theorem rname_any (w : World) (s : ByteArray) (hs : s.size ≤ 9223372036854775807) :
    Calls Tryz.prog 58 #[.string s] w fun e w' => e = .returned (.bool (nameOk s)) ∧ w' = w := by
  have HP := hid (plain_any w s hs)
  by_cases h0 : s.size = 0
  · have hb := hid (bad_size (.inl h0))
    have e : s = ⟨#[]⟩ := bytes_inj (List.length_eq_zero_iff.1 (by rw [← Lib.size_eq]; exact h0))
    subst e
    clear HP
    go_enter Tryz.func58, Tryz.ntmps58
    go_wp2
    all_goals first
      | (go_ret; exact ⟨by rw [hb.out]; rfl, rfl⟩)
      | (exfalso; simp_all)
  by_cases h64 : 64 < s.size
  · have hb := hid (bad_size (.inr h64))
    have hne : s.toList.isEmpty = false := not_empty h0
    clear HP
    go_enter Tryz.func58, Tryz.ntmps58
    go_wp2
    all_goals first
      | (go_ret; exact ⟨by rw [hb.out]; rfl, rfl⟩)
      | (exfalso; simp_all; omega)
  have hne : s.toList.isEmpty = false := not_empty h0
  have HN := hid (name_eq s (by omega) (by omega))
  generalize hc : s[0]'(by omega) = c at HN
  have hcl := c.toNat_lt
  by_cases hd : 48 ≤ c.toNat ∧ c.toNat ≤ 57
  · have hb : Hid (nameOk s = false) := by
      refine hid ?_
      rw [HN.out, (plain_dig hd).2]
      rfl
    clear HP
    go_enter Tryz.func58, Tryz.ntmps58
    go_wp2
    all_goals first
      | (go_ret; exact ⟨by rw [hb.out]; rfl, rfl⟩)
      | (exfalso; simp_all; omega)
  · have hb : Hid (nameOk s = plainAll s) := by
      refine hid ?_
      have : digitB c = false := by
        cases e : digitB c with
        | false => rfl
        | true => simp only [digitB, Bool.and_eq_true, decide_eq_true_eq] at e; omega
      rw [HN.out, this]
      simp
    go_enter Tryz.func58, Tryz.ntmps58
    go_wp2_with (go_at_call 83; refine HP.out.mono ?_)
    all_goals first
      | (rintro e w1 ⟨rfl, hw⟩
         replace hw := hw.symm
         subst hw
         go_wp2
         go_ret
         exact ⟨by rw [hb.out]; rfl, rfl⟩)
      | (go_ret; exact ⟨by rw [hb.out]; rfl, rfl⟩)
      | (exfalso; simp_all; done)
      | (exfalso; simp_all; omega)
theorem less_any (w : World) (X Y : ByteArray) : Calls Tryz.prog 59 #[.string X, .string Y] w fun e w' => e = .returned (.int .i64 (cmpB X Y)) ∧ w' = w := by
 have hE := eq_str X Y
 have hL := lt_str X Y
 have hR := cmpB_good.rng X Y
 by_cases c1 : cmpB X Y = -1
 ·rw [decide_eq_true c1] at hL
  have HC := hid c1
  clear hE hR c1
  go_enter Tryz.func59, Tryz.ntmps59
  go_wp2
  go_ret
  exact ⟨by rw [HC.out]; rfl, rfl⟩
 ·rw [decide_eq_false c1] at hL
  by_cases c0 : cmpB X Y = 0
  ·rw [decide_eq_true c0] at hE
   have HC := hid c0
   clear hR c1 c0
   go_enter Tryz.func59, Tryz.ntmps59
   go_wp2
   go_ret
   exact ⟨by rw [HC.out]; rfl, rfl⟩
  ·rw [decide_eq_false c0] at hE
   have HC : Hid (cmpB X Y = 1) := by refine hid ?_; omega
   clear hR c1 c0
   go_enter Tryz.func59, Tryz.ntmps59
   go_wp2
   go_ret
   exact ⟨by rw [HC.out]; rfl, rfl⟩
set_option maxRecDepth 100000 in
set_option maxHeartbeats 1600000 in
theorem same_any (w : World) (va vb : Value) (l : Labs) (ha : LabSrc w va l) (hb : LabSrc w vb l) (hl : l.length ≤ 1000000) :
  Calls Tryz.prog 33 #[va, vb] w fun e w' => e = .returned (.bool true) ∧ Kept w w' := by
 obtain ⟨a1, c1, rfl⟩ := ha.len
 obtain ⟨a2, c2, rfl⟩ := hb.len
 obtain ⟨L, hL⟩ : ∃ L, l.length = L := ⟨_, rfl⟩
 rw [hL] at ha hb hl ⊢
 have HA := hid ha
 have HB := hid hb
 have HL := hid hL
 clear ha hb hL
 go_enter Tryz.func33, Tryz.ntmps33
 go_wp2
 go_loopw [5] (fun s wr => ∃ (k : Nat), k ≤ L ∧ s = .int .i64 (k : Int) ∧ Kept w wr) (fun s _ => L - (intOf s).toNat)
 case atStart => exact ⟨0, by omega, rfl, Only.refl _ _⟩
 case round =>
  obtain ⟨k, hk, rfl, kr⟩ := hrel
  by_cases hlt : k < L
  ·obtain ⟨b1, o1, rfl, x1, y1⟩ := (HA.out.stay kr).cell HL.out k hlt
   obtain ⟨b2, o2, rfl, x2, y2⟩ := (HB.out.stay kr).cell HL.out k hlt
   generalize (l[k]'(by have := HL.out; omega)).1 = X at x1 x2
   generalize (l[k]'(by have := HL.out; omega)).2 = Y at y1 y2
   go_wp2_with fail
   go_quiet (fail)
   go_wp2_with fail
   go_roundw
   case rel => exact ⟨k + 1, by omega, by go_num, kept_drewN kr nq⟩
   case measure => simp [intOf]; omega
  ·have e : k = L := by omega
   subst e
   go_wp2
   go_ret
   exact ⟨rfl, kr⟩
def bigN : Labs → Nat
 | [] => 0
 | x :: r => 1 + x.1.size + x.2.size + bigN r
theorem bigN_app (l : Labs) (x : Lab) : bigN (l ++ [x]) = bigN l + (1 + x.1.size + x.2.size) := by
 induction l with
 | nil => simp [bigN]
 | cons y r ih => simp only [List.cons_append, bigN, ih]; omega
theorem bigN_le (l : Labs) (k : Nat) : bigN (l.take k) ≤ bigN l := by
 induction l generalizing k with
 | nil => simp
 | cons x r ih =>
  cases k with
  | zero => simp [bigN]
  | succ k => simp only [List.take_succ_cons, bigN]; have := ih k; omega
theorem bigN_len (l : Labs) : l.length ≤ bigN l := by
 induction l with
 | nil => simp
 | cons x r ih => simp only [List.length_cons, bigN]; omega
theorem bigN_small {l : Labs} (h : bigN l ≤ 4000) : Small l ∧ l.length ≤ 4000 := by
 refine ⟨fun x hx => ?_, Nat.le_trans (bigN_len l) h⟩
 induction l with
 | nil => cases hx
 | cons y r ih =>
  simp only [bigN] at h
  rcases List.mem_cons.1 hx with rfl | hx
  ·omega
  ·exact ih (by omega) hx
def Came (l : Labs) : Prop := ∀ x ∈ l, x.1.size ≤ 1000000000000000 ∧ x.2.size ≤ 1000000000000000
set_option maxRecDepth 100000 in
set_option maxHeartbeats 1600000 in
theorem big_any (w : World) (v : Value) (l : Labs) (hs : LabSrc w v l) (hl : l.length ≤ 9223372036854775807) (hC : Came l) :
  Calls Tryz.prog 19 #[v] w fun e w' => e = .returned (.bool (decide (4000 < bigN l))) ∧ Kept w w' := by
 obtain ⟨a1, c1, rfl⟩ := hs.len
 obtain ⟨L, hL⟩ : ∃ L, l.length = L := ⟨_, rfl⟩
 rw [hL] at hs hl ⊢
 have HS := hid hs
 have HL := hid hL
 have HC := hid hC
 clear hs hL hC
 go_enter Tryz.func19, Tryz.ntmps19
 go_wp2
 go_loopw [3, 4] (fun n s wr => ∃ (k : Nat) (N : Nat), k ≤ L ∧ s = .int .i64 (k : Int) ∧ n = .int .i64 (N : Int) ∧ N = bigN (l.take k) ∧ N ≤ 2000000000005000 ∧ Kept w wr) (fun _ s _ => L - (intOf s).toNat)
 case atStart => exact ⟨0, 0, by omega, rfl, rfl, by simp [bigN], by omega, Only.refl _ _⟩
 case round =>
  obtain ⟨k, N, hk, rfl, rfl, hN, hN2, kr⟩ := hrel
  have HN := hid hN
  have HK := hid kr
  clear hN
  by_cases hlt : k < L
  ·by_cases hn : N ≤ 4000
   ·have hkl : k < l.length := by have := HL.out; omega
    obtain ⟨b1, o1, rfl, x1, y1⟩ := (HS.out.stay kr).cell HL.out k hlt
    have HT : Hid (bigN (l.take (k + 1)) = N + (1 + (l[k]'hkl).1.size + (l[k]'hkl).2.size)) := by
     refine hid ?_
     rw [← List.take_append_getElem hkl, bigN_app, HN.out]
    have hc := HC.out _ (List.getElem_mem hkl)
    clear kr
    generalize l[k]'hkl = x at x1 y1 HT hc
    obtain ⟨X, Y⟩ := x
    simp only at x1 y1 HT hc
    have hn' : (N : Int) ≤ 4000 := by omega
    go_wp2_with fail
    go_quiet (fail)
    go_wp2_with fail
    go_roundw
    case rel =>
     have e1 : IntKind.i64.wrap ((N : Int) + 1) = (N : Int) + 1 := by rw [IntKind.wrap_i64]; omega
     have e2 : IntKind.i64.wrap ((N : Int) + 1 + (X.size : Int)) = (N : Int) + 1 + (X.size : Int) := by rw [IntKind.wrap_i64]; omega
     have e3 : IntKind.i64.wrap ((N : Int) + 1 + (X.size : Int) + (Y.size : Int)) = (N : Int) + 1 + (X.size : Int) + (Y.size : Int) := by rw [IntKind.wrap_i64]; omega
     exact ⟨k + 1, N + (1 + X.size + Y.size), by omega, by go_num, by rw [e1, e2, e3]; go_num, HT.out.symm, by omega, kept_drewN HK.out nq⟩
    case measure => simp [intOf]; omega
   ·have HE : Hid (decide (4000 < bigN l) = true) := by
     refine hid ?_
     have := bigN_le l k
     rw [← HN.out] at this
     exact decide_eq_true (by omega)
    have hn' : decide ((N : Int) ≤ 4000) = false := by simp; omega
    go_wp2
    go_ret
    exact ⟨by rw [HE.out]; simp; omega, kr⟩
  ·have e : k = L := by omega
   subst e
   have HE : Hid (bigN l = N) := by
    refine hid ?_
    rw [HN.out, List.take_of_length_le (by have := HL.out; omega)]
   go_wp2
   go_ret
   refine ⟨?_, kr⟩
   rw [HE.out]
   simp
   omega
end Go.Proofs.YtllfanlhgnkcfaaGreatDoor.N
namespace Go.Proofs.YtllfanlhgnkcfaaGreatDoor.N
open Go.RowKit Go.Proofs.Lys
set_option linter.unusedVariables false
set_option linter.unusedSimpArgs false
theorem lab_cut {w : World} {B : Nat} {v : Value} {l : Labs} (h : LabAt w B v l) (k : Nat) (hk : k ≤ l.length) :
  ∃ a1 a2 c2, (∀ W, (Instr.sliceAt 45 v none (some (.int .i64 (k : Int))) (some (.int .i64 (k : Int)))).run Tryz.prog W = .ok (.slice a1 k k) W) ∧ LabSrc w (.slice a1 k k) (l.take k) ∧
   (∀ W, (Instr.sliceAt 45 v (some (.int .i64 (k : Int))) none none).run Tryz.prog W = .ok (.slice a2 (l.length - k) c2) W) ∧ LabSrc w (.slice a2 (l.length - k) c2) (l.drop k) := by
 have ht := Tryz.underlying45
 rcases h.2 with ⟨rfl, h0⟩ | ⟨g, cap, cur, rfl, hb, hg, hnc, hcm, hcs, htake⟩
 ·have hl : l = [] := List.length_eq_zero_iff.1 h0
  subst hl
  have hk0 : k = 0 := by simpa using hk
  subst hk0
  exact ⟨none, none, 0, fun W => by kernel_rfl, .inl ⟨_, _, rfl, rfl⟩, fun W => by kernel_rfl, .inl ⟨_, _, rfl, rfl⟩⟩
 ·have hs := h.src
  have hkc : k ≤ cap := by omega
  refine ⟨some ⟨g, 0, none⟩, some (if cap = k then ⟨g, 0, none⟩ else ⟨g, k * 2, none⟩), cap - k, fun W => ?_, ?_, fun W => ?_, ?_⟩
  ·simp [Instr.sliceAt, Instr.slice, Instr.sliceBounds, Instr.sliceBound, run_underlying ht, asIntOf, hkc, Addr.add, Result.andThen]
  ·rcases hs with ⟨a, c, e, e2⟩ | ⟨hpos, b, o, c, e1, hc⟩
   ·subst e2
    have hk0 : k = 0 := by simpa using hk
    subst hk0
    exact .inl ⟨_, _, rfl, rfl⟩
   ·cases e1
    by_cases hk0 : k = 0
    ·subst hk0
     exact .inl ⟨_, _, rfl, rfl⟩
    ·have hlt : (l.take k).length = k := by rw [List.length_take]; omega
     refine .inr ⟨by omega, g, 0, k, by rw [hlt], fun i hi => ?_⟩
     rw [List.getElem_take]
     exact hc i (by omega)
  ·simp [Instr.sliceAt, Instr.slice, Instr.sliceBounds, Instr.sliceBound, run_underlying ht, asIntOf, hk, Addr.add, Result.andThen]
   by_cases hck : cap = k
   ·rw [if_pos hck, if_pos hck]
   ·rw [if_neg hck, if_neg hck]
    by_cases hk0 : k * 2 = 0
    ·rw [if_pos hk0, hk0]
    ·rw [if_neg hk0]
  ·by_cases hkl : k = l.length
   ·subst hkl
    rw [Nat.sub_self, List.drop_length]
    exact .inl ⟨_, _, rfl, rfl⟩
   ·rcases hs with ⟨a, c, e, e2⟩ | ⟨hpos, b, o, c, e1, hc⟩
    ·subst e2
     simp at hk hkl
     omega
    ·cases e1
     have hlt : (l.drop k).length = l.length - k := List.length_drop
     refine .inr ⟨by omega, g, k * 2, cap - k, by rw [hlt, if_neg (by omega)], fun i hi => ?_⟩
     rw [List.getElem_drop]
     have := hc (k + i) (by omega)
     rw [Nat.zero_add, Nat.add_mul] at this
     exact this
theorem src_cells {w : World} {b o : Nat} {l : Labs} (h : ∀ i (hi : i < l.length), w.cell? ⟨b, o + i * 2, none⟩ = some (.string l[i].1) ∧ w.cell? ⟨b, o + i * 2 + 1, none⟩ = some (.string l[i].2)) : ∀ j u, (labL l)[j]? = some u → w.cell? ((⟨b, o, none⟩ : Addr).add j) = some u := by
 intro j u hu
 rw [add_none]
 have hj : j < (labL l).length := (List.getElem?_eq_some_iff.1 hu).1
 rw [labL_len] at hj
 have hx := labL_at l (j / 2) (by omega)
 have hcc := h (j / 2) (by omega)
 rcases Nat.mod_two_eq_zero_or_one j with hp | hp
 ·have ej : j = j / 2 * 2 := by omega
  rw [ej] at hu ⊢
  rw [hx.1] at hu
  cases hu
  exact hcc.1
 ·have ej : j = j / 2 * 2 + 1 := by omega
  rw [ej] at hu ⊢
  rw [hx.2] at hu
  cases hu
  rw [← Nat.add_assoc]
  exact hcc.2
theorem full_append {w : World} {a : Option Addr} {k xb : Nat} {l : Labs} {x : Lab} (h : LabSrc w (.slice a k k) l) (hl : l.length = k) (hk : k ≤ 1000) (hx : Blk w xb [.string x.1, .string x.2] 71) :
  ∃ c w', Hid ((Builtin.append_ #[45, 45] 0 #[.slice a k k, .slice (some ⟨xb, 0, none⟩) 1 1]).run Tryz.prog w = .ok (.slice (some ⟨w.heap.size, 0, none⟩) (k + 1) c) w') ∧ LabAt w' w.heap.size (.slice (some ⟨w.heap.size, 0, none⟩) (k + 1) c) (l ++ [x]) ∧ Kept w w' := by
 obtain ⟨i0, hi0, hz0, hz1, hz2⟩ := info_parts Tryz.infoLab
 have hnews : ∀ j v, ([.string x.1, .string x.2] : List Value)[j]? = some v → w.cell? ((⟨xb, 0, none⟩ : Addr).add j) = some v := fun j u hj => by rw [add_none, Nat.zero_add]; exact hx.cell j hj
 have e : labL (l ++ [x]) = labL l ++ [.string x.1, .string x.2] := by rw [labL_app]; rfl
 have own : ∀ old, (w.drew.alloc (.cells ((labL l).toArray ++ #[.string x.1, .string x.2] ++ Builtin.zeroCells (Value.agg #[.string ⟨#[]⟩, .string ⟨#[]⟩]).cells (grownCap w (k + 1) old 71 - (k + 1))) 71)).ownsRow w.heap.size 71 2 (.slice (some ⟨w.heap.size, 0, none⟩) (k + 1) (grownCap w (k + 1) old 71)) (l ++ [x]).length (labL (l ++ [x])) := fun old => by
  have hge := grownCap_ge w (k + 1) old 71
  have hcm := grownCap_le_maxLen w (k + 1) old 71 (by unfold maxLen; omega)
  have hlen : (l ++ [x]).length = k + 1 := by rw [List.length_append, hl]; rfl
  refine ⟨labL_len _, .inr ⟨w.heap.size, _, _, by rw [hlen], Nat.le_refl _, heap_alloc_new w.drew _, by rw [hlen]; exact hge, hcm, ?_, ?_⟩⟩
  ·simp only [Array.size_append, List.size_toArray, size_zeroCells, labL_len, hl]
   simp [Value.cells]
   omega
  ·rw [e, hlen]
   simp only [Array.toList_append]
   rw [List.take_left']
   simp [labL_len, hl]
   omega
 have kept : ∀ o, Kept w (w.drew.alloc o) := fun o => ((Only.refl _ w).drew).alloc o
 rcases h with ⟨a', c', hv, rfl⟩ | ⟨h0, b, o, c', hv, hc⟩
 ·simp only [Value.slice.injEq] at hv
  obtain ⟨rfl, rfl, _⟩ := hv
  cases a with
  | none =>
   have hr := run_append_nil (P := Tryz.prog) w 45 0 71 i0 _ Tryz.underlying45 hi0 hz0 ⟨xb, 0, none⟩ 1 1 [.string x.1, .string x.2] (by rw [hz1]; rfl) hnews (by omega) (by omega) (by rw [hz2]; omega)
   refine ⟨_, _, hr, ?_, kept _⟩
   have := own 0
   unfold LabAt
   simpa [labL] using this
  | some b =>
   have hr := run_append_grow (P := Tryz.prog) w 45 0 71 i0 _ Tryz.underlying45 hi0 hz0 b 0 0 [] (by simp) (by simp) ⟨xb, 0, none⟩ 1 1 [.string x.1, .string x.2] (by rw [hz1]; rfl) hnews (by omega) (by omega) (by rw [hz2]; decide)
   refine ⟨_, _, hr, ?_, kept _⟩
   have := own 0
   unfold LabAt
   simpa [labL] using this
 ·simp only [Value.slice.injEq] at hv
  obtain ⟨rfl, _, _⟩ := hv
  have hfit : Builtin.nextslicecap (k + 1) k * i0.bytes ≤ 281474976710656 := by
   rw [hz2]
   have := nextslicecap_le (need := k + 1) (old := k) (by omega)
   omega
  have hr := run_append_grow (P := Tryz.prog) w 45 0 71 i0 _ Tryz.underlying45 hi0 hz0 ⟨b, o, none⟩ k k (labL l) (by rw [hz1, labL_len, hl]) (src_cells hc) ⟨xb, 0, none⟩ 1 1 [.string x.1, .string x.2] (by rw [hz1]; rfl) hnews (by omega) (by omega) hfit
  refine ⟨_, _, hr, ?_, kept _⟩
  have := own k
  unfold LabAt
  simpa using this
theorem put_rows {w : World} {B : Nat} {v : Value} {l : Labs} (h : LabAt w B v l) (hl : l.length ≤ 100) (k : Nat) (hk : k ≤ l.length) (x : Lab) :
  ∃ a1 a2 c2 a3 c3 w2 g4 c4 w3 g5 c5 w4,
   Hid (∀ W, (Instr.sliceAt 45 v none (some (.int .i64 (k : Int))) (some (.int .i64 (k : Int)))).run Tryz.prog W = .ok (.slice a1 k k) W) ∧
   Hid (∀ W, (Instr.sliceAt 45 v (some (.int .i64 (k : Int))) none none).run Tryz.prog W = .ok (.slice a2 (l.length - k) c2) W) ∧
   Hid ((Builtin.append_ #[45, 45] 0 #[.slice none 0 0, .slice a2 (l.length - k) c2]).run Tryz.prog w = .ok (.slice a3 (l.length - k) c3) w2) ∧
   Hid ((Builtin.append_ #[45, 45] 0 #[.slice a1 k k, .slice (some ⟨w2.heap.size, 0, none⟩) 1 1]).run Tryz.prog (w2.drew.alloc (.cells #[.string x.1, .string x.2] 71)) = .ok (.slice (some ⟨g4, 0, none⟩) (k + 1) c4) w3) ∧
   Hid ((Builtin.append_ #[45, 45] 0 #[.slice (some ⟨g4, 0, none⟩) (k + 1) c4, .slice a3 (l.length - k) c3]).run Tryz.prog w3 = .ok (.slice (some ⟨g5, 0, none⟩) (l.length + 1) c5) w4) ∧
   Hid (LabAt w4 w.heap.size (.slice (some ⟨g5, 0, none⟩) (l.length + 1) c5) (l.take k ++ x :: l.drop k)) ∧ Hid (Kept w w4) ∧ Hid (Kept w w2) ∧ Hid (Kept w2 w3) := by
 obtain ⟨a1, a2, c2, s1, e1, s2, e2⟩ := lab_cut h k hk
 have hlt : (l.take k).length = k := by rw [List.length_take]; omega
 have hld : (l.drop k).length = l.length - k := List.length_drop
 obtain ⟨a3, c3, w2, r3, o3, k2⟩ := lab_copy e2 (by rw [hld]; omega)
 rw [hld] at r3 o3
 have ka : Kept w2 (w2.drew.alloc (.cells #[.string x.1, .string x.2] 71)) := ((Only.refl _ w2).drew).alloc _
 have hbx : Blk (w2.drew.alloc (.cells #[.string x.1, .string x.2] 71)) w2.heap.size [.string x.1, .string x.2] 71 := Blk.new w2.drew _ _
 obtain ⟨c4, w3, r4, o4, k4⟩ := full_append ((e1.stay k2).stay ka) hlt (by omega) hbx
 have h4 : (l.take k ++ [x]).length = k + 1 := by rw [List.length_append, hlt]; rfl
 have k3 : Kept w2 w3 := ka.trans k4 (fun _ _ f => f)
 obtain ⟨v5, w4, r5, o5, g5, _⟩ := lab_append (q := l.drop k) o4 (by have := (LabAt.src o3); exact (this.stay k3)) (by rw [h4, hld]; omega) k4.size
 obtain ⟨g5b, c5, rfl⟩ := ownN_some o5 (by simp; omega)
 have h5 : (l.take k ++ [x] ++ l.drop k).length = l.length + 1 := by rw [List.length_append, h4, hld]; omega
 have o5' : LabAt w4 w.heap.size (.slice (some ⟨g5b, 0, none⟩) (l.take k ++ [x] ++ l.drop k).length c5) (l.take k ++ [x] ++ l.drop k) := ownN_base o5 (Nat.le_trans k2.size ka.size)
 have k5 : Kept w w4 := ((k2.trans k3 (fun _ _ f => f))).grown g5 (fun j hj hjl => by
  have h6 : (w2.drew.alloc (.cells #[.string x.1, .string x.2] 71)).heap.size = j := by simpa [Value.ownBlock] using hj
  have h7 := k2.size
  have h8 := ka.size
  omega)
 rw [h5] at r5 o5'
 have e : l.take k ++ [x] ++ l.drop k = l.take k ++ x :: l.drop k := by simp
 rw [e] at o5'
 exact ⟨a1, a2, c2, a3, c3, w2, _, c4, w3, g5b, c5, w4, s1, s2, r3, r4, r5, o5', k5, k2, k3⟩
end Go.Proofs.YtllfanlhgnkcfaaGreatDoor.N
