/-
  Xeq.
-/
import Derived.Test.YtllfanlhgnkcfaaGreatDoorQ27
import Derived.BigQuiet
import Derived.Deep.QuietTactic
import Derived.Laws.StructEq
namespace Go.Proofs.YtllfanlhgnkcfaaGreatDoor.X
open Go.RowKit Go.Proofs.Lys Go.Maps Go.Proofs.YtllfanlhgnkcfaaGreatDoor.N
set_option linter.unusedVariables false
set_option linter.unusedSimpArgs false
theorem Tryz.fieldsLab : Tryz.prog.underlying 71 = some (.struct (Tryz.prog.fieldsOf 71)) := by kernel_rfl
theorem Tryz.heldLab : Tryz.prog.stoodInHeld 71 = false := by kernel_rfl
theorem list_inj {a b : ByteArray} : a.toList = b.toList ↔ a = b := by
 rw [ByteArray.toList_eq, ByteArray.toList_eq]
 exact ⟨bytes_inj, fun e => by rw [e]⟩
theorem eql_lab (x y : Lab) (w : World) : (binOp .eql 71 (.agg #[.string x.1, .string x.2]) (.agg #[.string y.1, .string y.2])).run Tryz.prog w = .ok (.bool (decide (x = y))) w := by
 rw [run_eql_struct, show (10000 : Nat) = 9999 + 1 from rfl, run_equalIn_agg w 9999 71 _ _ Tryz.fieldsLab Tryz.heldLab]
 simp only [Program.fieldsOf, Tryz.underlying71]
 have a9 := Tryz.isAgg9
 have z9 := Tryz.sizeOf9
 have u9 := Tryz.underlying9
 go_simp
 simp only [list_inj]
 obtain ⟨a, b⟩ := x
 obtain ⟨c, d⟩ := y
 by_cases h1 : a = c <;> by_cases h2 : b = d <;> simp [h1, h2]
theorem neq_lab (x y : Lab) (w : World) : (binOp .neq 71 (.agg #[.string x.1, .string x.2]) (.agg #[.string y.1, .string y.2])).run Tryz.prog w = .ok (.bool (!decide (x = y))) w := by
 have h := eql_lab x y w
 unfold binOp at h ⊢
 simp at h ⊢
 revert h
 generalize Sem.run Tryz.prog (Op.equal 71 (.agg #[.string x.1, .string x.2]) (.agg #[.string y.1, .string y.2])) w = r
 intro h
 cases r <;> simp [Result.andThen] at h ⊢
 obtain ⟨h1, h2⟩ := h
 subst h1
 exact ⟨rfl, h2⟩
def Drawn (w w' : World) : Prop := ∃ m, w' = w.drewN m
theorem Drawn.refl (w : World) : Drawn w w := ⟨0, rfl⟩
theorem Drawn.drewN {w w' : World} (h : Drawn w w') (n : Nat) : Drawn w (w'.drewN n) := by
 obtain ⟨m, rfl⟩ := h
 exact ⟨m + n, by unfold World.drewN; simp [Nat.add_assoc]⟩
theorem Drawn.kept {w w' : World} (h : Drawn w w') : Kept w w' := by
 obtain ⟨m, rfl⟩ := h
 exact ⟨rfl, rfl, rfl, Nat.le_refl _, fun _ _ _ => rfl⟩
set_option maxRecDepth 100000 in
set_option maxHeartbeats 1600000 in
theorem equal_any (w : World) (va vb : Value) (la lb : Labs) (ha : LabSrc w va la) (hb : LabSrc w vb lb) (hla : la.length ≤ 1000000) (hlb : lb.length ≤ 1000000) :
  Calls Tryz.prog 45 #[va, vb] w fun e w' => e = .returned (.bool (decide (la = lb))) ∧ Drawn w w' := by
 obtain ⟨a1, c1, rfl⟩ := ha.len
 obtain ⟨a2, c2, rfl⟩ := hb.len
 by_cases hne : la.length = lb.length
 ·obtain ⟨L, hL⟩ : ∃ L, la.length = L := ⟨_, rfl⟩
  have hL2 : lb.length = L := by omega
  rw [hL] at ha hla ⊢
  rw [hL2] at hb ⊢
  have HA := hid ha
  have HB := hid hb
  have HL := hid hL
  have HL2 := hid hL2
  clear ha hb hL hL2 hne hlb
  go_enter Tryz.func45, Tryz.ntmps45
  go_wp2
  go_loopw [13] (fun s wr => ∃ (k : Nat), k ≤ L ∧ s = .int .i64 (k : Int) ∧ Hid (∀ i (hi : i < la.length) (hi2 : i < lb.length), i < k → la[i] = lb[i]) ∧ Drawn w wr) (fun s _ => L - (intOf s).toNat)
  case atStart => exact ⟨0, by omega, rfl, hid (fun i _ _ h => by omega), Drawn.refl w⟩
  case round =>
   obtain ⟨k, hk, rfl, hsame, kr⟩ := hrel
   have HD := hid kr
   have kk := kr.kept
   clear kr
   by_cases hlt : k < L
   ·obtain ⟨b1, o1, rfl, x1, y1⟩ := (HA.out.stay kk).cell HL.out k hlt
    obtain ⟨b2, o2, rfl, x2, y2⟩ := (HB.out.stay kk).cell HL2.out k hlt
    have h1 : k < la.length := by have := HL.out; omega
    have h2 : k < lb.length := by have := HL2.out; omega
    have hn := fun W => neq_lab la[k] lb[k] W
    by_cases he : la[k] = lb[k]
    ·have HE := hid he
     rw [decide_eq_true he, Bool.not_true] at hn
     generalize la[k].1 = X1 at x1 hn
     generalize la[k].2 = Y1 at y1 hn
     generalize lb[k].1 = X2 at x2 hn
     generalize lb[k].2 = Y2 at y2 hn
     clear he
     go_wp2_with fail
     go_quiet (fail)
     go_wp2_with fail
     go_roundw
     case rel => exact ⟨k + 1, by omega, by go_num, hid (fun i hi hi2 h => by
      by_cases e : i = k
      ·subst e
       exact HE.out
      ·exact hsame.out i hi hi2 (by omega)), HD.out.drewN nq⟩
     case measure => simp [intOf]; omega
    ·have HE := hid (show decide (la = lb) = false from decide_eq_false (fun e => he (by subst e; rfl)))
     rw [decide_eq_false he, Bool.not_false] at hn
     generalize la[k].1 = X1 at x1 hn
     generalize la[k].2 = Y1 at y1 hn
     generalize lb[k].1 = X2 at x2 hn
     generalize lb[k].2 = Y2 at y2 hn
     clear he
     go_wp2_with fail
     go_quiet (fail)
     go_wp2
     go_ret
     exact ⟨by rw [HE.out]; rfl, HD.out.drewN nq⟩
   ·have e : k = L := by omega
    subst e
    have HE := hid (show decide (la = lb) = true from decide_eq_true (List.ext_getElem (by rw [HL.out, HL2.out]) (fun i h1 h2 => hsame.out i h1 h2 (by have := HL.out; omega))))
    go_wp2
    go_ret
    exact ⟨by rw [HE.out]; rfl, HD.out⟩
 ·have HE := hid (show decide (la = lb) = false from decide_eq_false (fun e => hne (by rw [e])))
  have hn : ((la.length : Int) == (lb.length : Int)) = false := by
   simp only [beq_eq_false_iff_ne, ne_eq, Int.ofNat_inj]
   exact hne
  have hn2 : ¬ (la.length : Int) = (lb.length : Int) := by omega
  generalize la.length = A at *
  generalize lb.length = B at *
  clear ha hb hne
  go_enter Tryz.func45, Tryz.ntmps45
  go_wp2
  go_ret
  exact ⟨by rw [HE.out]; rfl, Drawn.refl w⟩
set_option maxRecDepth 100000 in
set_option maxHeartbeats 1600000 in
theorem rsame_any (w : World) (va vb : Value) (la lb : Labs) (ha : LabSrc w va la) (hb : LabSrc w vb lb) (hla : la.length ≤ 1000000) (hlb : lb.length ≤ 1000000) :
  Calls Tryz.prog 33 #[va, vb] w fun e w' => e = .returned (.bool (decide (la = lb))) ∧ Drawn w w' := by
 obtain ⟨a1, c1, rfl⟩ := ha.len
 obtain ⟨a2, c2, rfl⟩ := hb.len
 by_cases hne : la.length = lb.length
 ·obtain ⟨L, hL⟩ : ∃ L, la.length = L := ⟨_, rfl⟩
  have hL2 : lb.length = L := by omega
  rw [hL] at ha hla ⊢
  rw [hL2] at hb ⊢
  have HA := hid ha
  have HB := hid hb
  have HL := hid hL
  have HL2 := hid hL2
  clear ha hb hL hL2 hne hlb
  go_enter Tryz.func33, Tryz.ntmps33
  go_wp2
  go_loopw [5] (fun s wr => ∃ (k : Nat), k ≤ L ∧ s = .int .i64 (k : Int) ∧ Hid (∀ i (hi : i < la.length) (hi2 : i < lb.length), i < k → la[i] = lb[i]) ∧ Drawn w wr) (fun s _ => L - (intOf s).toNat)
  case atStart => exact ⟨0, by omega, rfl, hid (fun i _ _ h => by omega), Drawn.refl w⟩
  case round =>
   obtain ⟨k, hk, rfl, hsame, kr⟩ := hrel
   have HD := hid kr
   have kk := kr.kept
   clear kr
   by_cases hlt : k < L
   ·obtain ⟨b1, o1, rfl, x1, y1⟩ := (HA.out.stay kk).cell HL.out k hlt
    obtain ⟨b2, o2, rfl, x2, y2⟩ := (HB.out.stay kk).cell HL2.out k hlt
    have h1 : k < la.length := by have := HL.out; omega
    have h2 : k < lb.length := by have := HL2.out; omega
    have hn := fun W => neq_lab la[k] lb[k] W
    by_cases he : la[k] = lb[k]
    ·have HE := hid he
     rw [decide_eq_true he, Bool.not_true] at hn
     generalize la[k].1 = X1 at x1 hn
     generalize la[k].2 = Y1 at y1 hn
     generalize lb[k].1 = X2 at x2 hn
     generalize lb[k].2 = Y2 at y2 hn
     clear he
     go_wp2_with fail
     go_quiet (fail)
     go_wp2_with fail
     go_roundw
     case rel => exact ⟨k + 1, by omega, by go_num, hid (fun i hi hi2 h => by
      by_cases e : i = k
      ·subst e
       exact HE.out
      ·exact hsame.out i hi hi2 (by omega)), HD.out.drewN nq⟩
     case measure => simp [intOf]; omega
    ·have HE := hid (show decide (la = lb) = false from decide_eq_false (fun e => he (by subst e; rfl)))
     rw [decide_eq_false he, Bool.not_false] at hn
     generalize la[k].1 = X1 at x1 hn
     generalize la[k].2 = Y1 at y1 hn
     generalize lb[k].1 = X2 at x2 hn
     generalize lb[k].2 = Y2 at y2 hn
     clear he
     go_wp2_with fail
     go_quiet (fail)
     go_wp2
     go_ret
     exact ⟨by rw [HE.out]; rfl, HD.out.drewN nq⟩
   ·have e : k = L := by omega
    subst e
    have HE := hid (show decide (la = lb) = true from decide_eq_true (List.ext_getElem (by rw [HL.out, HL2.out]) (fun i h1 h2 => hsame.out i h1 h2 (by have := HL.out; omega))))
    go_wp2
    go_ret
    exact ⟨by rw [HE.out]; rfl, HD.out⟩
 ·have HE := hid (show decide (la = lb) = false from decide_eq_false (fun e => hne (by rw [e])))
  have hn : ((la.length : Int) == (lb.length : Int)) = false := by
   simp only [beq_eq_false_iff_ne, ne_eq, Int.ofNat_inj]
   exact hne
  have hn2 : ¬ (la.length : Int) = (lb.length : Int) := by omega
  generalize la.length = A at *
  generalize lb.length = B at *
  clear ha hb hne
  go_enter Tryz.func33, Tryz.ntmps33
  go_wp2
  go_ret
  exact ⟨by rw [HE.out]; rfl, Drawn.refl w⟩
end Go.Proofs.YtllfanlhgnkcfaaGreatDoor.X
