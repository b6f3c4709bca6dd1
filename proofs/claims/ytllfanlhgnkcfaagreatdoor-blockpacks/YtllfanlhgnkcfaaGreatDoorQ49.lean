/-
  Kunp4b.
-/
import Derived.Test.YtllfanlhgnkcfaaGreatDoorQ47
namespace Go.Proofs.YtllfanlhgnkcfaaGreatDoor.K
open Go.RowKit Go.Proofs.Lys Go.Maps Go.Shelf
open Go.Proofs.YtllfanlhgnkcfaaGreatDoor.N (ownN_slice ownN_lt ownN_only ownN_stay ownN_base ownN_typed ownN_some)
set_option linter.unusedVariables false
set_option linter.unusedSimpArgs false
theorem results_four {fn : Func} {t u v x : Tmp} (h : fn.results = #[.tmp t, .tmp u, .tmp v, .tmp x]) (tmps : Array Value) (P : Program) (w : World) :
  (results fn tmps).run P w = .ok (.tuple #[tmps.getD t undef, tmps.getD u undef, tmps.getD v undef, tmps.getD x undef]) w := by
 simp [results, h]
def LkB (w : World) (bs : List UInt8) (e : Ending) (w' : World) : Prop :=
 Kept w w' ∧ (((∀ l, ¬ ReadK bs l) ∧ e = .returned (.tuple #[.int .i64 0, .int .i64 0, .int .i64 0, .int .i64 5])) ∨ ∃ l, ReadK bs l ∧ e = .returned (.tuple #[.int .i64 (spanB l).1, .int .i64 (spanB l).2, .int .i64 (l.length : Int), .int .i64 0]))
theorem check_times {l : List Ser} (h : checkB l = 0) : ∀ s ∈ l, s.2 ≠ [] ∧ ∀ x ∈ s.2, -9007199254740992 ≤ x.1 ∧ x.1 ≤ 9007199254740992 := fun s hs => by
 obtain ⟨_, hf⟩ := check_fit h
 obtain ⟨i, hi, rfl⟩ := List.getElem_of_mem hs
 refine ⟨(hf i hi).some, fun x hx => ?_⟩
 obtain ⟨j, hj, rfl⟩ := List.getElem_of_mem hx
 have := ((times_iff _).1 (hf i hi).times).at (i := j) (by rw [List.length_map]; exact hj)
 rw [List.getElem_map] at this
 exact this
set_option maxHeartbeats 1600000 in
theorem lookB_any (w : World) (v : Value) (bs : List UInt8) (hs : C.BSrc w v bs) (hl : bs.length ≤ 2000000) (hFi : ∀ N, bs.length = N + 4 → FineB (bs.take N)) (hT : G.Tab w) (hG : ErrT w) (hM : N.Mx w) (hRe : ∀ N l, bs.length = N + 4 → BlkK (bs.take N) (some l) → Reach l) :
  Calls Tryz.prog 16 #[v] w (LkB w bs) := by
 have HUN := hid (unpack_any w v bs hs hl hFi hT hG hM hRe)
 have HRE := hid hRe
 obtain ⟨a, c, e, _⟩ := id hs.2
 obtain ⟨M, hM2⟩ : ∃ M, bs.length = M := ⟨_, rfl⟩
 rw [hM2] at e
 subst e
 obtain ⟨R, hR⟩ : ∃ R, LkB w bs = R := ⟨_, rfl⟩
 rw [hR]
 have HRR := hid hR
 clear hs hl hT hG hM hRe hM2 hR hFi
 go_enter Tryz.func16, Tryz.ntmps16
 go_wp2_with fail
 refine HUN.out.mono ?_
 rintro e w1 ⟨k1, ⟨hno, rfl⟩ | ⟨qs, v', hrk, rfl, hser⟩⟩
 ·have HFN : Hid (R (.returned (.tuple #[.int .i64 0, .int .i64 0, .int .i64 0, .int .i64 5])) w1) := by rw [← HRR.out]; exact ⟨k1, .inl ⟨hno, rfl⟩⟩
  clear k1 hno HUN
  go_wp2_with fail
  refine bodyPost_ret (results_four rfl _ _ _) rfl ?_
  exact HFN.out
 ·obtain ⟨N, hN, hbk, hc0, _⟩ := id hrk
  have hre := HRE.out N _ hN hbk
  have hct := check_times hc0
  have HSP := hid (span_any w1 v' (qs.map SV.ser) hser.serIn (check_fit hc0).1 (fun s hs => ⟨(hct s hs).1, by have := (hre.all s hs).2.2; omega, (hct s hs).2⟩))
  have HFN : Hid (∀ w', Kept w1 w' → R (.returned (.tuple #[.int .i64 (spanB (qs.map SV.ser)).1, .int .i64 (spanB (qs.map SV.ser)).2, .int .i64 ((qs.length : Nat) : Int), .int .i64 0])) w') := fun w' k => by
   rw [← HRR.out]
   exact ⟨k1.trans k (fun _ _ f => f), .inr ⟨_, hrk, by rw [List.length_map]⟩⟩
  obtain ⟨va, vc, hve⟩ := ownN_slice hser.row
  obtain ⟨VN, hVN⟩ : ∃ n, qs.length = n := ⟨_, rfl⟩
  rw [hVN] at hve HFN
  subst hve
  generalize (spanB (qs.map SV.ser)).1 = S1 at HSP HFN
  generalize (spanB (qs.map SV.ser)).2 = S2 at HSP HFN
  clear k1 hser hrk hN hbk hc0 hre hct hVN HUN
  go_wp2_with fail
  refine HSP.out.mono ?_
  rintro e w2 ⟨rfl, k2⟩
  have HF2 := hid (HFN.out w2 k2)
  clear k2
  go_wp2_with fail
  refine bodyPost_ret (results_four rfl _ _ _) rfl ?_
  exact HF2.out
end Go.Proofs.YtllfanlhgnkcfaaGreatDoor.K
