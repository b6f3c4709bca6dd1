/-
  cut: a list falls into runs.
-/
import Derived.Test.YtcacoanhiphbiaaZst
import Derived.BigQuiet
import Derived.Deep.QuietTactic
namespace Go.Proofs.Ytcacoanhiphbiaa.Ms
open Go Go.RowKit Go.Proofs.Lys
open Go.Proofs.Ytcacoanhiphbiaa.Mg (cmpZ)
set_option linter.unusedVariables false
set_option linter.unusedSimpArgs false

theorem kept_drewN {w w1 : World} (h : Kept w w1) (n : Nat) : Kept w (w1.drewN n) := ⟨h.os, by have := h.tape; simpa using this, h.output, h.size, h.block⟩
/-- A heap that is being made. -/
structure HeapC (RK : Rank) (w0 : World) (hb : Nat) (h : List Run) (a : Option Addr) (c : Nat) (w' : World) : Prop where
  blk : Blk w' hb [.slice a h.length c, fnV] 55
  row : w'.ownsRow w0.heap.size 59 2 (.slice a h.length c) h.length (runL h)
  src : ∀ r ∈ h, SSrc RK w0 r.1 r.2.1
  kept : Kept w0 w'
  base : w0.heap.size ≤ hb
theorem HeapC.keep {RK : Rank} {w0 : World} {hb : Nat} {h : List Run} {a : Option Addr} {c : Nat} {w' w'' : World} (H : HeapC RK w0 hb h a c w') (k : Kept w' w'') : HeapC RK w0 hb h a c w'' :=
  ⟨Only.blk k H.blk (fun f => f), ownN_stay H.row k, H.src, H.kept.trans k (fun _ _ f => f), H.base⟩
theorem nd_adj {s : Smps} (h : ∀ i (hi : i + 1 < s.length), (s[i]'(by omega)).1 ≤ s[i + 1].1) : Nd s := by
  unfold Nd
  rw [List.pairwise_iff_getElem]
  have key : ∀ d i (hi : i + d + 1 < s.length), (s[i]'(by omega)).1 ≤ s[i + d + 1].1 := by
    intro d
    induction d with
    | zero => intro i hi; exact h i hi
    | succ d ih =>
      intro i hi
      have h1 := ih i (by omega)
      have h2 := h (i + d + 1) (by omega)
      show _ ≤ (s[i + d + 1 + 1]).1
      omega
  intro i j hi hj hij
  have := key (j - i - 1) i (by omega)
  simp only [show i + (j - i - 1) + 1 = j by omega] at this
  exact this
theorem ssrc_sub {RK : Rank} {w : World} {a : Option Addr} {L c : Nat} {l : Smps} (h : SSrc RK w (.slice a L c) l) {lo hi : Nat} (h1 : lo ≤ hi) (h2 : hi ≤ l.length) :
    ∃ a' c', (∀ W, (Instr.sliceAt 25 (.slice a l.length c) (some (.int .i64 (lo : Int))) (some (.int .i64 (hi : Int))) none).run Try.prog W = .ok (.slice a' (hi - lo) c') W) ∧ SSrc RK w (.slice a' (hi - lo) c') ((l.take hi).drop lo) := by
  obtain ⟨hs, a2, c2, e, hc⟩ := h
  simp only [Value.slice.injEq] at e
  obtain ⟨rfl, rfl, rfl⟩ := e
  have hlen : ((l.take hi).drop lo).length = hi - lo := by rw [List.length_drop, List.length_take]; omega
  have hz : ∀ W, (sizeOf 29).run Try.prog W = .ok 2 W := fun W => by kernel_rfl
  have e2 : hi ≤ c := by omega
  refine ⟨if c = lo then a else a.map (·.add (lo * 2)), c - lo, fun W => ?_, ?_, _, c - lo, by rw [hlen], by rw [hlen]; omega⟩
  · simp [Instr.sliceAt, Instr.slice, Instr.sliceBounds, Instr.sliceBound, run_underlying Try.underlying25, asIntOf, h1, e2, hz, Result.andThen]
  · by_cases h0 : hi - lo = 0
    · have hn : (l.take hi).drop lo = [] := List.length_eq_zero_iff.1 (by rw [hlen]; exact h0)
      rw [hn, h0]
      exact .inl ⟨_, _, rfl, rfl⟩
    · rcases hs with ⟨x, y, hv, hn⟩ | ⟨hp, b, o, c3, hv, hcell⟩
      · rw [hn] at h2
        simp at h2
        omega
      · simp only [Value.slice.injEq] at hv
        obtain ⟨rfl, _, rfl⟩ := hv
        rw [if_neg (by omega)]
        refine .inr ⟨by rw [hlen]; omega, b, o + lo * 2, c - lo, by rw [hlen, Option.map_some, add_none], fun i hi' => ?_⟩
        rw [hlen] at hi'
        have := hcell (lo + i) (by omega)
        have e5 : ((l.take hi).drop lo)[i]'(by rw [hlen]; exact hi') = l[lo + i]'(by omega) := by
          rw [List.getElem_drop, List.getElem_take]
        rw [e5, show o + lo * 2 + i * 2 = o + (lo + i) * 2 by omega]
        exact this
/-- A run more. -/
theorem run_one {w : World} {B : Nat} {v : Value} {h : List Run} {s : Smps} (hown : w.ownsRow B 59 2 v h.length (runL h)) (hB : B ≤ w.heap.size) (x : Option Addr) (n c p : Nat) (hl : h.length < 1000000) :
    ∃ g cap w', Hid ((Builtin.append_ #[53, 53] 0 #[v, .slice (some ⟨w.heap.size, 0, none⟩) 1 1]).run Try.prog (w.alloc (.cells #[.slice x n c, .int .i64 (p : Int)] 59)) = .ok (.slice (some ⟨g, 0, none⟩) (h.length + 1) cap) w') ∧
      w'.ownsRow B 59 2 (.slice (some ⟨g, 0, none⟩) (h.length + 1) cap) (h.length + 1) (runL (h ++ [(.slice x n c, s, p)])) ∧ Only (fun k => v.ownBlock = some k) w w' := by
  obtain ⟨i0, hi0, hz0, hz1, hz2⟩ := info_parts Try.infoRun
  have k1 : Kept w (w.alloc (.cells #[.slice x n c, .int .i64 (p : Int)] 59)) := (Only.refl _ w).alloc _
  have hb := Blk.new w [.slice x n c, .int .i64 (p : Int)] 59
  obtain ⟨v', w', hr, h2, h3, _, h5⟩ := run_append_own_at (P := Try.prog) (w.alloc (.cells #[.slice x n c, .int .i64 (p : Int)] 59)) B _ 0 _ i0 _ 2 32 Try.underlying53 hi0 hz0 hz1 hz2 rfl (by decide) v h.length (runL h) (ownN_stay hown k1) ⟨w.heap.size, 0, none⟩ 1 1 [.slice x n c, .int .i64 (p : Int)] rfl
    (fun j u hu => by rw [add_none, Nat.zero_add]; exact hb.cell j hu) (by intro u hu; simp at hu; rcases hu with rfl | rfl <;> rfl) (by unfold maxLen; omega) (by omega) (Nat.le_trans hB k1.size)
  obtain ⟨g, cap, rfl⟩ := ownN_some h2 (by simp)
  refine ⟨g, cap, w', hr, ?_, ((Only.refl _ w).alloc _).grown h3 (fun j hj _ => hj)⟩
  rw [runL_app]
  exact h2

set_option maxRecDepth 100000 in
set_option maxHeartbeats 6400000 in
theorem cut_any {RK : Rank} {w0 : World} {hb : Nat} {h : List Run} {ah : Option Addr} {ch : Nat} (w : World) (H : HeapC RK w0 hb h ah ch w) (a : Option Addr) (L c : Nat) (l : Smps) (hs : SSrc RK w0 (.slice a L c) l) (hL : l.length = L) (hl : h.length + L ≤ 100000) (hp : PlcI h) :
    Calls Try.prog 26 #[.pointer (some ⟨hb, 0, none⟩), .slice a L c] w fun e w' => e = .returned (.tuple #[]) ∧ ∃ h2 a2 c2, HeapC RK w0 hb h2 a2 c2 w' ∧ PlcI h2 ∧ flat h2 = flat h ++ l ∧ h2.length ≤ h.length + L := by
  obtain ⟨R, hR⟩ : ∃ R, (fun (e : Ending) (w' : World) => e = .returned (.tuple #[]) ∧ ∃ h2 a2 c2, HeapC RK w0 hb h2 a2 c2 w' ∧ PlcI h2 ∧ flat h2 = flat h ++ l ∧ h2.length ≤ h.length + L) = R := ⟨_, rfl⟩
  rw [hR]
  have HRR := hid hR
  have HL := hid hL
  have HS := hid hs
  have HH := hid H
  have HP := hid hp
  have eg := eg_time
  clear hR hL hs H hp
  go_enter Try.func26, Try.ntmps26
  go_wp2
  go_loopw [9, 4] (fun s9 s4 W => ∃ (k frm : Nat) (h' : List Run) (a4 : Option Addr) (c4 : Nat), k ≤ L ∧ frm ≤ k ∧ s9 = .int .i64 (k : Int) ∧ s4 = .int .i64 (frm : Int) ∧ Hid (HeapC RK w0 hb h' a4 c4 W) ∧ Hid (PlcI h') ∧ Hid (flat h' = flat h ++ l.take frm) ∧ Hid (h'.length ≤ h.length + frm) ∧ Hid (∀ i, frm ≤ i → i < k → ∀ (h3 : i + 1 < l.length), (l[i]'(by omega)).1 ≤ l[i + 1].1) ∧ (k = L → L ≤ frm)) (fun s9 _ _ => L - (intOf s9).toNat)
  case atStart => exact ⟨0, 0, h, ah, ch, by omega, by omega, rfl, rfl, HH, HP, hid (by simp), hid (by omega), hid (fun i h1 h2 h3 => by omega), fun e => by omega⟩
  case round =>
    obtain ⟨k, frm, h', a4, c4, hk, hfk, rfl, rfl, HC, HPL, HFL, HLN, HAD, hend⟩ := hrel
    by_cases hlt : k < L
    · have hkl : k < l.length := by have := HL.out; omega
      obtain ⟨Q, hQ⟩ : ∃ Q, h'.length = Q := ⟨_, rfl⟩
      have HQ := hid hQ
      have hQ5 : Q ≤ 100000 := by have := HLN.out; omega
      clear hQ hend
      by_cases hto : k + 1 = L
      · have hxb : ((k : Int) + 1 == (L : Int)) = true := by simp; omega
        clear hto
        go_wp2_with fail
        go_quiet (fail)
        have HC := hid (HC.out.keep (kept_drewN (Only.refl _ wr) nq))
        generalize wr.drewN nq = W at HC ⊢
        have hcb0 := HC.out.blk.cell 0 rfl
        clear hcb0
        obtain ⟨av, cw, hsl, hsrc⟩ := ssrc_sub HS.out (lo := frm) (hi := k + 1) (by omega) (by have := HL.out; omega)
        rw [HL.out, show ((k + 1 : Nat) : Int) = (k : Int) + 1 by omega] at hsl
        have hnd : Nd ((l.take (k + 1)).drop frm) := nd_adj (fun i hi => by
          rw [List.length_drop, List.length_take] at hi
          rw [List.getElem_drop, List.getElem_drop, List.getElem_take, List.getElem_take]
          exact HAD.out (frm + i) (by omega) (by omega) (by have := HL.out; omega))
        have hne : (l.take (k + 1)).drop frm ≠ [] := fun e => by
          have := congrArg List.length e
          rw [List.length_drop, List.length_take, List.length_nil] at this
          have := HL.out
          omega
        have hPL := plc_app (v := .slice av (k + 1 - frm) cw) HPL.out hne hnd
        rw [HQ.out] at hPL
        have hFL : flat (h' ++ [(.slice av (k + 1 - frm) cw, (l.take (k + 1)).drop frm, Q)]) = flat h ++ l.take (k + 1) := by
          rw [flat_app, HFL.out, List.append_assoc]
          congr 1
          show _ ++ ((l.take (k + 1)).drop frm ++ []) = _
          rw [List.append_nil]
          have := List.take_append_drop frm (l.take (k + 1))
          rw [List.take_take, Nat.min_eq_left (by omega)] at this
          exact this
        have kd : Kept W W.drew := (Only.refl _ W).drew
        have hRd := ownN_stay HC.out.row kd
        rw [HQ.out] at hRd
        have hB2 : w0.heap.size ≤ W.drew.heap.size := HC.out.kept.size
        obtain ⟨g, cap, w1, Hr0, hR1, hon⟩ := run_one (s := (l.take (k + 1)).drop frm) (h := h') (by rw [HQ.out]; exact hRd) hB2 av (k + 1 - frm) cw Q (by rw [HQ.out]; omega)
        rw [HQ.out] at Hr0 hR1
        have Hr : Hid ((Builtin.append_ #[53, 53] 0 #[.slice a4 Q c4, .slice (some ⟨W.heap.size, 0, none⟩) 1 1]).run Try.prog (W.alloc (.cells #[.slice av (k + 1 - frm) cw, .int .i64 (Q : Int)] 59)).drew = .ok (.slice (some ⟨g, 0, none⟩) (Q + 1) cap) w1) := Hr0
        have hnb : ¬ (Value.slice a4 Q c4).ownBlock = some hb := fun e => (Typed.ne (ownN_typed hRd e) (Only.blk kd HC.out.blk (fun f => f)).typed (by decide)) rfl
        have hbk := HC.out.blk
        rw [HQ.out] at hbk
        have hB1 := Only.blk hon (Only.blk kd hbk (fun f => f)) hnb
        have hb0 := hbk.cell 0 rfl
        have hb1 := hB1.cell 0 rfl
        have hbf := hB1.frozen 0
        have hltb1 := hB1.lt
        have HC8 : Hid (HeapC RK w0 hb (h' ++ [(.slice av (k + 1 - frm) cw, (l.take (k + 1)).drop frm, Q)]) (some ⟨g, 0, none⟩) cap (w1.setCell ⟨hb, 0, none⟩ (.slice (some ⟨g, 0, none⟩) (Q + 1) cap))) := hid (by
          have hl1 : (h' ++ [((.slice av (k + 1 - frm) cw, (l.take (k + 1)).drop frm, Q) : Run)]).length = Q + 1 := by rw [List.length_append, HQ.out]; rfl
          refine ⟨?_, ?_, fun r hr => ?_, ((HC.out.kept.trans kd (fun _ _ f => f)).trans hon (fun q hq e => by have := (ownN_lt hRd e).1; omega)).setCell (fun h => by have := HC.out.base; simp at h; omega) _, HC.out.base⟩
          · rw [hl1]
            exact hB1.set 0 _
          · rw [hl1]
            exact ownN_block hR1 (fun q hq => Below.heap_setCell w1 _ _ q (Typed.ne (ownN_typed hR1 hq) hB1.typed (by decide)))
          · rcases List.mem_append.1 hr with hr | hr
            · exact HC.out.src r hr
            · rw [List.mem_singleton.1 hr]
              exact hsrc)
        have HPL8 := hid hPL
        have HFL8 := hid hFL
        have HQ8 : Hid ((h' ++ [((.slice av (k + 1 - frm) cw, (l.take (k + 1)).drop frm, Q) : Run)]).length ≤ h.length + (k + 1)) := hid (by have h1 := HLN.out; rw [HQ.out] at h1; rw [List.length_append, HQ.out]; simp; omega)
        clear hnd hne hPL hFL hsrc hRd hB2 hR1 hon Hr0 hbk hB1 kd
        go_wp2_with fail
        refine wp_region_noPanic ?_
        refine wp_region_last (L := 19) (S := fun w' => w'.cell? ⟨hb, 0, none⟩ = some (.slice a4 Q c4)) (by kernel_rfl) ?_
        have hS : (fun w' : World => w'.cell? ⟨hb, 0, none⟩ = some (.slice a4 Q c4)) W.drew := hb0
        refine wpAnyL_take (i := 0) (v := .pointer (some ⟨hb, 0, none⟩)) rfl (by kernel_rfl) (by kernel_rfl) (by kernel_rfl) (by kernel_rfl) (by kernel_rfl) (fun _ _ _ h => h) (Or.inl ⟨by kernel_rfl, ?_⟩) hS ?_
        · (intro w' hSw; go_simp)
        (try simp only [List.getElem_toArray, List.getElem_cons_succ, List.getElem_cons_zero])
        go_frame
        refine wpAnyL_take (i := 1) (v := .pointer (some ⟨hb, 0, none⟩)) rfl (by kernel_rfl) (by kernel_rfl) (by kernel_rfl) (by kernel_rfl) (by kernel_rfl) (fun _ _ _ h => h) (Or.inl ⟨by kernel_rfl, ?_⟩) hS ?_
        · (intro w' hSw; go_simp)
        (try simp only [List.getElem_toArray, List.getElem_cons_succ, List.getElem_cons_zero])
        go_frame
        refine wpAnyL_take (i := 2) (v := .pointer (some ⟨hb, 0, none⟩)) rfl (by kernel_rfl) (by kernel_rfl) (by kernel_rfl) (by kernel_rfl) (by kernel_rfl) (fun _ _ _ h => h) (Or.inl ⟨by kernel_rfl, ?_⟩) hS ?_
        · (intro w' hSw; go_simp)
        (try simp only [List.getElem_toArray, List.getElem_cons_succ, List.getElem_cons_zero])
        go_frame
        refine wpAnyL_take (i := 3) (v := .pointer (some ⟨hb, 0, none⟩)) rfl (by kernel_rfl) (by kernel_rfl) (by kernel_rfl) (by kernel_rfl) (by kernel_rfl) (fun _ _ _ h => h) (Or.inl ⟨by kernel_rfl, ?_⟩) hS ?_
        · (intro w' hSw; go_simp)
        (try simp only [List.getElem_toArray, List.getElem_cons_succ, List.getElem_cons_zero])
        go_frame
        refine wpAnyL_take (i := 4) (v := .slice a4 Q c4) rfl (by kernel_rfl) (by kernel_rfl) (by kernel_rfl) (by kernel_rfl) (by kernel_rfl) (fun _ _ _ h => h) (Or.inl ⟨by kernel_rfl, ?_⟩) hS ?_
        · (intro w' hSw; have s0 := hSw; clear hSw; go_simp)
        (try simp only [List.getElem_toArray, List.getElem_cons_succ, List.getElem_cons_zero])
        go_frame
        refine wpAnyL_take (i := 5) (v := .slice a L c) rfl (by kernel_rfl) (by kernel_rfl) (by kernel_rfl) (by kernel_rfl) (by kernel_rfl) (fun _ _ _ h => h) (Or.inl ⟨by kernel_rfl, ?_⟩) hS ?_
        · (intro w' hSw; go_simp)
        (try simp only [List.getElem_toArray, List.getElem_cons_succ, List.getElem_cons_zero])
        go_frame
        refine wpAnyL_take (i := 6) (v := .int .i64 (frm : Int)) rfl (by kernel_rfl) (by kernel_rfl) (by kernel_rfl) (by kernel_rfl) (by kernel_rfl) (fun _ _ _ h => h) (Or.inl ⟨by kernel_rfl, ?_⟩) hS ?_
        · (intro w' hSw; go_simp)
        (try simp only [List.getElem_toArray, List.getElem_cons_succ, List.getElem_cons_zero])
        go_frame
        refine wpAnyL_take (i := 7) (v := .int .i64 ((k : Int) + 1)) rfl (by kernel_rfl) (by kernel_rfl) (by kernel_rfl) (by kernel_rfl) (by kernel_rfl) (fun _ _ _ h => h) (Or.inl ⟨by kernel_rfl, ?_⟩) hS ?_
        · (intro w' hSw; go_simp)
        (try simp only [List.getElem_toArray, List.getElem_cons_succ, List.getElem_cons_zero])
        go_frame
        refine wpAnyL_take (i := 8) (v := .slice av (k + 1 - frm) cw) rfl (by kernel_rfl) (by kernel_rfl) (by kernel_rfl) (by kernel_rfl) (by kernel_rfl) (fun _ _ _ h => h) (Or.inl ⟨by kernel_rfl, ?_⟩) hS ?_
        · (intro w' hSw; go_simp)
        (try simp only [List.getElem_toArray, List.getElem_cons_succ, List.getElem_cons_zero])
        go_frame
        refine wpAnyL_take (i := 9) (v := .pointer (some ⟨hb, 0, none⟩)) rfl (by kernel_rfl) (by kernel_rfl) (by kernel_rfl) (by kernel_rfl) (by kernel_rfl) (fun _ _ _ h => h) (Or.inl ⟨by kernel_rfl, ?_⟩) hS ?_
        · (intro w' hSw; go_simp)
        (try simp only [List.getElem_toArray, List.getElem_cons_succ, List.getElem_cons_zero])
        go_frame
        refine wpAnyL_take (i := 10) (v := .pointer (some ⟨hb, 0, none⟩)) rfl (by kernel_rfl) (by kernel_rfl) (by kernel_rfl) (by kernel_rfl) (by kernel_rfl) (fun _ _ _ h => h) (Or.inl ⟨by kernel_rfl, ?_⟩) hS ?_
        · (intro w' hSw; go_simp)
        (try simp only [List.getElem_toArray, List.getElem_cons_succ, List.getElem_cons_zero])
        go_frame
        refine wpAnyL_take (i := 11) (v := .pointer (some ⟨hb, 0, none⟩)) rfl (by kernel_rfl) (by kernel_rfl) (by kernel_rfl) (by kernel_rfl) (by kernel_rfl) (fun _ _ _ h => h) (Or.inl ⟨by kernel_rfl, ?_⟩) hS ?_
        · (intro w' hSw; go_simp)
        (try simp only [List.getElem_toArray, List.getElem_cons_succ, List.getElem_cons_zero])
        go_frame
        refine wpAnyL_take (i := 12) (v := .slice a4 Q c4) rfl (by kernel_rfl) (by kernel_rfl) (by kernel_rfl) (by kernel_rfl) (by kernel_rfl) (fun _ _ _ h => h) (Or.inl ⟨by kernel_rfl, ?_⟩) hS ?_
        · (intro w' hSw; have s0 := hSw; clear hSw; go_simp)
        (try simp only [List.getElem_toArray, List.getElem_cons_succ, List.getElem_cons_zero])
        go_frame
        refine wpAnyL_take (i := 13) (v := .int .i64 (Q : Int)) rfl (by kernel_rfl) (by kernel_rfl) (by kernel_rfl) (by kernel_rfl) (by kernel_rfl) (fun _ _ _ h => h) (Or.inl ⟨by kernel_rfl, ?_⟩) hS ?_
        · (intro w' hSw; go_simp)
        (try simp only [List.getElem_toArray, List.getElem_cons_succ, List.getElem_cons_zero])
        go_frame
        refine wpAnyL_take (i := 14) (v := .agg #[.slice av (k + 1 - frm) cw, .int .i64 (Q : Int)]) rfl (by kernel_rfl) (by kernel_rfl) (by kernel_rfl) (by kernel_rfl) (by kernel_rfl) (fun _ _ _ h => h) (Or.inl ⟨by kernel_rfl, ?_⟩) hS ?_
        · (intro w' hSw; go_simp)
        (try simp only [List.getElem_toArray, List.getElem_cons_succ, List.getElem_cons_zero])
        go_frame
        refine wpAnyL_one (i := 15) (by kernel_rfl) rfl rfl ?_
        go_simp
        have kz : Kept W (W.alloc (.cells #[.slice av (k + 1 - frm) cw, .int .i64 (Q : Int)] 59)).drew := ((Only.refl _ W).alloc _).drew
        first | refine ⟨each_cell kz _ _ hb0, ?_⟩ | skip
        (try go_frame)
        clear hS kz
        have HB1 := hid hb1
        refine wpAnyL_one (i := 16) (by kernel_rfl) rfl rfl (oper_appendH _ _ _ rfl rfl rfl Hr ?_)
        refine ⟨HB1.out, ?_⟩
        (try simp only [List.getElem_toArray, List.getElem_cons_succ, List.getElem_cons_zero])
        go_frame
        refine wpAnyL_one (i := 17) (by kernel_rfl) rfl rfl ?_
        go_simp
        first | refine ⟨HB1.out, ?_⟩ | skip
        (try simp only [List.getElem_toArray, List.getElem_cons_succ, List.getElem_cons_zero])
        (try go_frame)
        refine wpAnyL_one (i := 18) (by kernel_rfl) rfl rfl ?_
        go_simp
        first | refine ⟨HB1.out, ?_⟩ | skip
        (try simp only [List.getElem_toArray, List.getElem_cons_succ, List.getElem_cons_zero])
        (try go_frame)
        refine wpAnyL_last (by kernel_rfl) (by kernel_rfl) rfl rfl ?_
        go_simp
        refine NoPanic.normal ?_
        generalize w1.setCell ⟨hb, 0, none⟩ (.slice (some ⟨g, 0, none⟩) (Q + 1) cap) = w8 at HC8 ⊢
        clear hb0 hb1 hbf hltb1 Hr hsl
        go_wp2
        go_roundw
        case rel => exact ⟨k + 1, k + 1, _, _, _, by omega, Nat.le_refl _, by go_num, by go_num, HC8, HPL8, HFL8, HQ8, hid (fun i h1 h2 h3 => by omega), fun e => by omega⟩
        case measure => simp [intOf]; omega
      · have hxb : ((k : Int) + 1 == (L : Int)) = false := by simp; omega
        have hk1 : k + 1 < L := by omega
        have hkl1 : k + 1 < l.length := by have := HL.out; omega
        have HSR := hid ((HS.out.stay HC.out.kept).1)
        obtain ⟨b, o, e0, p0, p1, pf⟩ := HSR.out.cell HL.out k hlt
        obtain ⟨b', o', e1, q0, q1, qf⟩ := HSR.out.cell HL.out (k + 1) hk1
        subst e0
        simp only [Option.some.injEq, Addr.mk.injEq, and_true] at e1
        obtain ⟨rfl, rfl⟩ := e1
        obtain ⟨⟨x1, ⟨la, ln, lc, sa, sn, sc, ll1, ss1⟩⟩, hx⟩ : ∃ x, l[k] = x := ⟨_, rfl⟩
        obtain ⟨⟨y1, ⟨lb, lm, ld, sb, sm, sd, ll2, ss2⟩⟩, hy⟩ : ∃ y, l[k + 1] = y := ⟨_, rfl⟩
        have HX := hid hx
        have HY := hid hy
        rw [hx] at p0 p1 pf
        rw [hy] at q0 q1 qf
        simp only [SVc.lv, SVc.sv] at p0 p1 q0 q1
        have PF := hid pf
        have QF := hid qf
        have P0 := hid p0
        have P1 := hid p1
        have Q0 := hid q0
        have Q1 := hid q1
        have B1 := hid (HC.out.blk.cell 1 rfl)
        have hblt : b < wr.heap.size := World.block_lt_of_cell? wr _ p0
        clear hx hy p0 p1 q0 q1 pf qf
        have hin : Hid ((L : Int) ≤ (L : Int)) := hid (Int.le_refl _)
        go_wp2_with fail
        have KA := hid (show Kept wr wr.drew from (Only.refl _ _).drew)
        have HBT2 := hid (bylabels_any wr.drew (x1, ⟨la, ln, lc, sa, sn, sc, ll1, ss1⟩) (y1, ⟨lb, lm, ld, sb, sm, sd, ll2, ss2⟩) (PF.out.stay KA.out) (QF.out.stay KA.out))
        simp only [SVc.lv, SVc.sv] at HBT2
        clear PF QF
        by_cases hf : y1 < x1
        · have hz : cmpZ x1 y1 = 1 := by unfold cmpZ; rw [if_neg (by omega), if_pos hf]
          rw [hz] at HBT2
          refine wp_region_noPanic ?_
          refine wp_region_last (L := 1000) (S := fun w' => Kept wr w') (by kernel_rfl) ?_
          refine wpAnyN_take (i := 0) (v := .int .i64 ((k : Int) + 1)) rfl (by kernel_rfl) (by kernel_rfl) (by kernel_rfl) (by decide) (by kernel_rfl) (fun _ _ _ h => h) (Or.inl ⟨by kernel_rfl, ?_⟩) KA.out ?_
          · (intro w' hSw; go_simp)
          (try simp only [List.getElem_toArray, List.getElem_cons_succ, List.getElem_cons_zero])
          go_frame
          refine wpAnyN_take (i := 1) (v := .slice (some ⟨b, o, none⟩) L c) rfl (by kernel_rfl) (by kernel_rfl) (by kernel_rfl) (by decide) (by kernel_rfl) (fun _ _ _ h => h) (Or.inl ⟨by kernel_rfl, ?_⟩) KA.out ?_
          · (intro w' hSw; go_simp)
          (try simp only [List.getElem_toArray, List.getElem_cons_succ, List.getElem_cons_zero])
          go_frame
          refine wpAnyN_take (i := 2) (v := .int .i64 (L : Int)) rfl (by kernel_rfl) (by kernel_rfl) (by kernel_rfl) (by decide) (by kernel_rfl) (fun _ _ _ h => h) (Or.inl ⟨by kernel_rfl, ?_⟩) KA.out ?_
          · (intro w' hSw; go_simp)
          (try simp only [List.getElem_toArray, List.getElem_cons_succ, List.getElem_cons_zero])
          go_frame
          refine wpAnyN_take (i := 3) (v := .bool false) rfl (by kernel_rfl) (by kernel_rfl) (by kernel_rfl) (by decide) (by kernel_rfl) (fun _ _ _ h => h) (Or.inl ⟨by kernel_rfl, ?_⟩) KA.out ?_
          · (intro w' hSw; go_simp)
          (try simp only [List.getElem_toArray, List.getElem_cons_succ, List.getElem_cons_zero])
          go_frame
          refine wpAnyN_take (i := 4) (v := .bool false) rfl (by kernel_rfl) (by kernel_rfl) (by kernel_rfl) (by decide) (by kernel_rfl) (fun _ _ _ h => h) (Or.inl ⟨by kernel_rfl, ?_⟩) KA.out ?_
          · (intro w' hSw; go_simp)
          (try simp only [List.getElem_toArray, List.getElem_cons_succ, List.getElem_cons_zero])
          go_frame
          refine wpAnyN_take (i := 5) (v := .pointer (some ⟨hb, 0, none⟩)) rfl (by kernel_rfl) (by kernel_rfl) (by kernel_rfl) (by decide) (by kernel_rfl) (fun _ _ _ h => h) (Or.inl ⟨by kernel_rfl, ?_⟩) KA.out ?_
          · (intro w' hSw; go_simp)
          (try simp only [List.getElem_toArray, List.getElem_cons_succ, List.getElem_cons_zero])
          go_frame
          refine wpAnyN_take (i := 6) (v := .pointer (some ⟨hb, 0, none⟩)) rfl (by kernel_rfl) (by kernel_rfl) (by kernel_rfl) (by decide) (by kernel_rfl) (fun _ _ _ h => h) (Or.inl ⟨by kernel_rfl, ?_⟩) KA.out ?_
          · (intro w' hSw; go_simp)
          (try simp only [List.getElem_toArray, List.getElem_cons_succ, List.getElem_cons_zero])
          go_frame
          refine wpAnyN_take (i := 7) (v := .pointer (some ⟨hb, 1, none⟩)) rfl (by kernel_rfl) (by kernel_rfl) (by kernel_rfl) (by decide) (by kernel_rfl) (fun _ _ _ h => h) (Or.inl ⟨by kernel_rfl, ?_⟩) KA.out ?_
          · (intro w' hSw; go_simp)
          (try simp only [List.getElem_toArray, List.getElem_cons_succ, List.getElem_cons_zero])
          go_frame
          refine wpAnyN_take (i := 8) (v := fnV) rfl (by kernel_rfl) (by kernel_rfl) (by kernel_rfl) (by decide) (by kernel_rfl) (fun _ _ _ h => h) (Or.inl ⟨by kernel_rfl, ?_⟩) KA.out ?_
          · (intro w' hSw; have s0 := each_cell hSw _ _ B1.out; clear hSw; go_simp)
          (try simp only [List.getElem_toArray, List.getElem_cons_succ, List.getElem_cons_zero])
          go_frame
          refine wpAnyN_take (i := 9) (v := .slice (some ⟨b, o, none⟩) L c) rfl (by kernel_rfl) (by kernel_rfl) (by kernel_rfl) (by decide) (by kernel_rfl) (fun _ _ _ h => h) (Or.inl ⟨by kernel_rfl, ?_⟩) KA.out ?_
          · (intro w' hSw; go_simp)
          (try simp only [List.getElem_toArray, List.getElem_cons_succ, List.getElem_cons_zero])
          go_frame
          refine wpAnyN_take (i := 10) (v := .int .i64 (k : Int)) rfl (by kernel_rfl) (by kernel_rfl) (by kernel_rfl) (by decide) (by kernel_rfl) (fun _ _ _ h => h) (Or.inl ⟨by kernel_rfl, ?_⟩) KA.out ?_
          · (intro w' hSw; go_simp)
          (try simp only [List.getElem_toArray, List.getElem_cons_succ, List.getElem_cons_zero])
          go_frame
          refine wpAnyN_take (i := 11) (v := .pointer (some ⟨b, o + k * 2, none⟩)) rfl (by kernel_rfl) (by kernel_rfl) (by kernel_rfl) (by decide) (by kernel_rfl) (fun _ _ _ h => h) (Or.inl ⟨by kernel_rfl, ?_⟩) KA.out ?_
          · (intro w' hSw; go_simp)
          (try simp only [List.getElem_toArray, List.getElem_cons_succ, List.getElem_cons_zero])
          go_frame
          refine wpAnyN_take (i := 12) (v := .agg #[.slice la ln lc, .slice sa sn sc]) rfl (by kernel_rfl) (by kernel_rfl) (by kernel_rfl) (by decide) (by kernel_rfl) (fun _ _ _ h => h) (Or.inl ⟨by kernel_rfl, ?_⟩) KA.out ?_
          · (intro w' hSw; have s0 := each_cell hSw _ _ P0.out; have s1 := each_cell hSw _ _ P1.out; clear hSw; go_simp)
          (try simp only [List.getElem_toArray, List.getElem_cons_succ, List.getElem_cons_zero])
          go_frame
          refine wpAnyN_take (i := 13) (v := .slice (some ⟨b, o, none⟩) L c) rfl (by kernel_rfl) (by kernel_rfl) (by kernel_rfl) (by decide) (by kernel_rfl) (fun _ _ _ h => h) (Or.inl ⟨by kernel_rfl, ?_⟩) KA.out ?_
          · (intro w' hSw; go_simp)
          (try simp only [List.getElem_toArray, List.getElem_cons_succ, List.getElem_cons_zero])
          go_frame
          refine wpAnyN_take (i := 14) (v := .int .i64 ((k : Int) + 1)) rfl (by kernel_rfl) (by kernel_rfl) (by kernel_rfl) (by decide) (by kernel_rfl) (fun _ _ _ h => h) (Or.inl ⟨by kernel_rfl, ?_⟩) KA.out ?_
          · (intro w' hSw; go_simp)
          (try simp only [List.getElem_toArray, List.getElem_cons_succ, List.getElem_cons_zero])
          go_frame
          refine wpAnyN_take (i := 15) (v := .pointer (some ⟨b, o + (k + 1) * 2, none⟩)) rfl (by kernel_rfl) (by kernel_rfl) (by kernel_rfl) (by decide) (by kernel_rfl) (fun _ _ _ h => h) (Or.inl ⟨by kernel_rfl, ?_⟩) KA.out ?_
          · (intro w' hSw; (try go_simp); (try omega))
          (try simp only [List.getElem_toArray, List.getElem_cons_succ, List.getElem_cons_zero])
          go_frame
          refine wpAnyN_take (i := 16) (v := .agg #[.slice lb lm ld, .slice sb sm sd]) rfl (by kernel_rfl) (by kernel_rfl) (by kernel_rfl) (by decide) (by kernel_rfl) (fun _ _ _ h => h) (Or.inl ⟨by kernel_rfl, ?_⟩) KA.out ?_
          · (intro w' hSw; have s0 := each_cell hSw _ _ Q0.out; have s1 := each_cell hSw _ _ Q1.out; clear hSw; go_simp)
          (try simp only [List.getElem_toArray, List.getElem_cons_succ, List.getElem_cons_zero])
          go_frame
          refine wpAnyL_one (i := 17) (by kernel_rfl) rfl (by kernel_rfl) ?_
          go_simp
          refine HBT2.out.mono ?_
          rintro e wb ⟨rfl, kk⟩
          have KB := hid (show Kept wr wb from KA.out.trans kk (fun _ _ f => f))
          clear kk HBT2 hz
          refine ⟨KB.out, ?_⟩
          (try simp only [List.getElem_toArray, List.getElem_cons_succ, List.getElem_cons_zero])
          (try go_frame)
          refine wpAnyL_one (i := 18) (by kernel_rfl) rfl (by kernel_rfl) ?_
          go_simp
          refine ⟨KB.out, ?_⟩
          (try simp only [List.getElem_toArray, List.getElem_cons_succ, List.getElem_cons_zero])
          (try go_frame)
          refine wpAnyL_one (i := 19) (by kernel_rfl) rfl (by kernel_rfl) ?_
          go_simp
          refine ⟨KB.out, ?_⟩
          (try go_frame)
          refine wpAnyN_done (by kernel_rfl) ?_
          refine NoPanic.normal ?_
          have HC := hid (HC.out.keep KB.out)
          clear KA P0 P1 Q0 Q1 B1 hblt HSR
          obtain ⟨W, hWr⟩ : ∃ W, W = wb := ⟨_, rfl⟩
          subst hWr
          clear KB
          obtain ⟨av, cw, hsl, hsrc⟩ := ssrc_sub HS.out (lo := frm) (hi := k + 1) (by omega) (by have := HL.out; omega)
          rw [HL.out, show ((k + 1 : Nat) : Int) = (k : Int) + 1 by omega] at hsl
          have hnd : Nd ((l.take (k + 1)).drop frm) := nd_adj (fun i hi => by
            rw [List.length_drop, List.length_take] at hi
            rw [List.getElem_drop, List.getElem_drop, List.getElem_take, List.getElem_take]
            exact HAD.out (frm + i) (by omega) (by omega) (by have := HL.out; omega))
          have hne : (l.take (k + 1)).drop frm ≠ [] := fun e => by
            have := congrArg List.length e
            rw [List.length_drop, List.length_take, List.length_nil] at this
            have := HL.out
            omega
          have hPL := plc_app (v := .slice av (k + 1 - frm) cw) HPL.out hne hnd
          rw [HQ.out] at hPL
          have hFL : flat (h' ++ [(.slice av (k + 1 - frm) cw, (l.take (k + 1)).drop frm, Q)]) = flat h ++ l.take (k + 1) := by
            rw [flat_app, HFL.out, List.append_assoc]
            congr 1
            show _ ++ ((l.take (k + 1)).drop frm ++ []) = _
            rw [List.append_nil]
            have := List.take_append_drop frm (l.take (k + 1))
            rw [List.take_take, Nat.min_eq_left (by omega)] at this
            exact this
          have kd : Kept W W.drew := (Only.refl _ W).drew
          have hRd := ownN_stay HC.out.row kd
          rw [HQ.out] at hRd
          have hB2 : w0.heap.size ≤ W.drew.heap.size := HC.out.kept.size
          obtain ⟨g, cap, w1, Hr0, hR1, hon⟩ := run_one (s := (l.take (k + 1)).drop frm) (h := h') (by rw [HQ.out]; exact hRd) hB2 av (k + 1 - frm) cw Q (by rw [HQ.out]; omega)
          rw [HQ.out] at Hr0 hR1
          have Hr : Hid ((Builtin.append_ #[53, 53] 0 #[.slice a4 Q c4, .slice (some ⟨W.heap.size, 0, none⟩) 1 1]).run Try.prog (W.alloc (.cells #[.slice av (k + 1 - frm) cw, .int .i64 (Q : Int)] 59)).drew = .ok (.slice (some ⟨g, 0, none⟩) (Q + 1) cap) w1) := Hr0
          have hnb : ¬ (Value.slice a4 Q c4).ownBlock = some hb := fun e => (Typed.ne (ownN_typed hRd e) (Only.blk kd HC.out.blk (fun f => f)).typed (by decide)) rfl
          have hbk := HC.out.blk
          rw [HQ.out] at hbk
          have hB1 := Only.blk hon (Only.blk kd hbk (fun f => f)) hnb
          have hb0 := hbk.cell 0 rfl
          have hb1 := hB1.cell 0 rfl
          have hbf := hB1.frozen 0
          have hltb1 := hB1.lt
          have HC8 : Hid (HeapC RK w0 hb (h' ++ [(.slice av (k + 1 - frm) cw, (l.take (k + 1)).drop frm, Q)]) (some ⟨g, 0, none⟩) cap (w1.setCell ⟨hb, 0, none⟩ (.slice (some ⟨g, 0, none⟩) (Q + 1) cap))) := hid (by
            have hl1 : (h' ++ [((.slice av (k + 1 - frm) cw, (l.take (k + 1)).drop frm, Q) : Run)]).length = Q + 1 := by rw [List.length_append, HQ.out]; rfl
            refine ⟨?_, ?_, fun r hr => ?_, ((HC.out.kept.trans kd (fun _ _ f => f)).trans hon (fun q hq e => by have := (ownN_lt hRd e).1; omega)).setCell (fun h => by have := HC.out.base; simp at h; omega) _, HC.out.base⟩
            · rw [hl1]
              exact hB1.set 0 _
            · rw [hl1]
              exact ownN_block hR1 (fun q hq => Below.heap_setCell w1 _ _ q (Typed.ne (ownN_typed hR1 hq) hB1.typed (by decide)))
            · rcases List.mem_append.1 hr with hr | hr
              · exact HC.out.src r hr
              · rw [List.mem_singleton.1 hr]
                exact hsrc)
          have HPL8 := hid hPL
          have HFL8 := hid hFL
          have HQ8 : Hid ((h' ++ [((.slice av (k + 1 - frm) cw, (l.take (k + 1)).drop frm, Q) : Run)]).length ≤ h.length + (k + 1)) := hid (by have h1 := HLN.out; rw [HQ.out] at h1; rw [List.length_append, HQ.out]; simp; omega)
          clear hnd hne hPL hFL hsrc hRd hB2 hR1 hon Hr0 hbk hB1 kd
          go_wp2_with fail
          refine wp_region_noPanic ?_
          refine wp_region_last (L := 19) (S := fun w' => w'.cell? ⟨hb, 0, none⟩ = some (.slice a4 Q c4)) (by kernel_rfl) ?_
          have hS : (fun w' : World => w'.cell? ⟨hb, 0, none⟩ = some (.slice a4 Q c4)) W.drew := hb0
          refine wpAnyL_take (i := 0) (v := .pointer (some ⟨hb, 0, none⟩)) rfl (by kernel_rfl) (by kernel_rfl) (by kernel_rfl) (by kernel_rfl) (by kernel_rfl) (fun _ _ _ h => h) (Or.inl ⟨by kernel_rfl, ?_⟩) hS ?_
          · (intro w' hSw; go_simp)
          (try simp only [List.getElem_toArray, List.getElem_cons_succ, List.getElem_cons_zero])
          go_frame
          refine wpAnyL_take (i := 1) (v := .pointer (some ⟨hb, 0, none⟩)) rfl (by kernel_rfl) (by kernel_rfl) (by kernel_rfl) (by kernel_rfl) (by kernel_rfl) (fun _ _ _ h => h) (Or.inl ⟨by kernel_rfl, ?_⟩) hS ?_
          · (intro w' hSw; go_simp)
          (try simp only [List.getElem_toArray, List.getElem_cons_succ, List.getElem_cons_zero])
          go_frame
          refine wpAnyL_take (i := 2) (v := .pointer (some ⟨hb, 0, none⟩)) rfl (by kernel_rfl) (by kernel_rfl) (by kernel_rfl) (by kernel_rfl) (by kernel_rfl) (fun _ _ _ h => h) (Or.inl ⟨by kernel_rfl, ?_⟩) hS ?_
          · (intro w' hSw; go_simp)
          (try simp only [List.getElem_toArray, List.getElem_cons_succ, List.getElem_cons_zero])
          go_frame
          refine wpAnyL_take (i := 3) (v := .pointer (some ⟨hb, 0, none⟩)) rfl (by kernel_rfl) (by kernel_rfl) (by kernel_rfl) (by kernel_rfl) (by kernel_rfl) (fun _ _ _ h => h) (Or.inl ⟨by kernel_rfl, ?_⟩) hS ?_
          · (intro w' hSw; go_simp)
          (try simp only [List.getElem_toArray, List.getElem_cons_succ, List.getElem_cons_zero])
          go_frame
          refine wpAnyL_take (i := 4) (v := .slice a4 Q c4) rfl (by kernel_rfl) (by kernel_rfl) (by kernel_rfl) (by kernel_rfl) (by kernel_rfl) (fun _ _ _ h => h) (Or.inl ⟨by kernel_rfl, ?_⟩) hS ?_
          · (intro w' hSw; have s0 := hSw; clear hSw; go_simp)
          (try simp only [List.getElem_toArray, List.getElem_cons_succ, List.getElem_cons_zero])
          go_frame
          refine wpAnyL_take (i := 5) (v := .slice (some ⟨b, o, none⟩) L c) rfl (by kernel_rfl) (by kernel_rfl) (by kernel_rfl) (by kernel_rfl) (by kernel_rfl) (fun _ _ _ h => h) (Or.inl ⟨by kernel_rfl, ?_⟩) hS ?_
          · (intro w' hSw; go_simp)
          (try simp only [List.getElem_toArray, List.getElem_cons_succ, List.getElem_cons_zero])
          go_frame
          refine wpAnyL_take (i := 6) (v := .int .i64 (frm : Int)) rfl (by kernel_rfl) (by kernel_rfl) (by kernel_rfl) (by kernel_rfl) (by kernel_rfl) (fun _ _ _ h => h) (Or.inl ⟨by kernel_rfl, ?_⟩) hS ?_
          · (intro w' hSw; go_simp)
          (try simp only [List.getElem_toArray, List.getElem_cons_succ, List.getElem_cons_zero])
          go_frame
          refine wpAnyL_take (i := 7) (v := .int .i64 ((k : Int) + 1)) rfl (by kernel_rfl) (by kernel_rfl) (by kernel_rfl) (by kernel_rfl) (by kernel_rfl) (fun _ _ _ h => h) (Or.inl ⟨by kernel_rfl, ?_⟩) hS ?_
          · (intro w' hSw; go_simp)
          (try simp only [List.getElem_toArray, List.getElem_cons_succ, List.getElem_cons_zero])
          go_frame
          refine wpAnyL_take (i := 8) (v := .slice av (k + 1 - frm) cw) rfl (by kernel_rfl) (by kernel_rfl) (by kernel_rfl) (by kernel_rfl) (by kernel_rfl) (fun _ _ _ h => h) (Or.inl ⟨by kernel_rfl, ?_⟩) hS ?_
          · (intro w' hSw; go_simp)
          (try simp only [List.getElem_toArray, List.getElem_cons_succ, List.getElem_cons_zero])
          go_frame
          refine wpAnyL_take (i := 9) (v := .pointer (some ⟨hb, 0, none⟩)) rfl (by kernel_rfl) (by kernel_rfl) (by kernel_rfl) (by kernel_rfl) (by kernel_rfl) (fun _ _ _ h => h) (Or.inl ⟨by kernel_rfl, ?_⟩) hS ?_
          · (intro w' hSw; go_simp)
          (try simp only [List.getElem_toArray, List.getElem_cons_succ, List.getElem_cons_zero])
          go_frame
          refine wpAnyL_take (i := 10) (v := .pointer (some ⟨hb, 0, none⟩)) rfl (by kernel_rfl) (by kernel_rfl) (by kernel_rfl) (by kernel_rfl) (by kernel_rfl) (fun _ _ _ h => h) (Or.inl ⟨by kernel_rfl, ?_⟩) hS ?_
          · (intro w' hSw; go_simp)
          (try simp only [List.getElem_toArray, List.getElem_cons_succ, List.getElem_cons_zero])
          go_frame
          refine wpAnyL_take (i := 11) (v := .pointer (some ⟨hb, 0, none⟩)) rfl (by kernel_rfl) (by kernel_rfl) (by kernel_rfl) (by kernel_rfl) (by kernel_rfl) (fun _ _ _ h => h) (Or.inl ⟨by kernel_rfl, ?_⟩) hS ?_
          · (intro w' hSw; go_simp)
          (try simp only [List.getElem_toArray, List.getElem_cons_succ, List.getElem_cons_zero])
          go_frame
          refine wpAnyL_take (i := 12) (v := .slice a4 Q c4) rfl (by kernel_rfl) (by kernel_rfl) (by kernel_rfl) (by kernel_rfl) (by kernel_rfl) (fun _ _ _ h => h) (Or.inl ⟨by kernel_rfl, ?_⟩) hS ?_
          · (intro w' hSw; have s0 := hSw; clear hSw; go_simp)
          (try simp only [List.getElem_toArray, List.getElem_cons_succ, List.getElem_cons_zero])
          go_frame
          refine wpAnyL_take (i := 13) (v := .int .i64 (Q : Int)) rfl (by kernel_rfl) (by kernel_rfl) (by kernel_rfl) (by kernel_rfl) (by kernel_rfl) (fun _ _ _ h => h) (Or.inl ⟨by kernel_rfl, ?_⟩) hS ?_
          · (intro w' hSw; go_simp)
          (try simp only [List.getElem_toArray, List.getElem_cons_succ, List.getElem_cons_zero])
          go_frame
          refine wpAnyL_take (i := 14) (v := .agg #[.slice av (k + 1 - frm) cw, .int .i64 (Q : Int)]) rfl (by kernel_rfl) (by kernel_rfl) (by kernel_rfl) (by kernel_rfl) (by kernel_rfl) (fun _ _ _ h => h) (Or.inl ⟨by kernel_rfl, ?_⟩) hS ?_
          · (intro w' hSw; go_simp)
          (try simp only [List.getElem_toArray, List.getElem_cons_succ, List.getElem_cons_zero])
          go_frame
          refine wpAnyL_one (i := 15) (by kernel_rfl) rfl rfl ?_
          go_simp
          have kz : Kept W (W.alloc (.cells #[.slice av (k + 1 - frm) cw, .int .i64 (Q : Int)] 59)).drew := ((Only.refl _ W).alloc _).drew
          first | refine ⟨each_cell kz _ _ hb0, ?_⟩ | skip
          (try go_frame)
          clear hS kz
          have HB1 := hid hb1
          refine wpAnyL_one (i := 16) (by kernel_rfl) rfl rfl (oper_appendH _ _ _ rfl rfl rfl Hr ?_)
          refine ⟨HB1.out, ?_⟩
          (try simp only [List.getElem_toArray, List.getElem_cons_succ, List.getElem_cons_zero])
          go_frame
          refine wpAnyL_one (i := 17) (by kernel_rfl) rfl rfl ?_
          go_simp
          first | refine ⟨HB1.out, ?_⟩ | skip
          (try simp only [List.getElem_toArray, List.getElem_cons_succ, List.getElem_cons_zero])
          (try go_frame)
          refine wpAnyL_one (i := 18) (by kernel_rfl) rfl rfl ?_
          go_simp
          first | refine ⟨HB1.out, ?_⟩ | skip
          (try simp only [List.getElem_toArray, List.getElem_cons_succ, List.getElem_cons_zero])
          (try go_frame)
          refine wpAnyL_last (by kernel_rfl) (by kernel_rfl) rfl rfl ?_
          go_simp
          refine NoPanic.normal ?_
          generalize w1.setCell ⟨hb, 0, none⟩ (.slice (some ⟨g, 0, none⟩) (Q + 1) cap) = w8 at HC8 ⊢
          clear hb0 hb1 hbf hltb1 Hr hsl
          go_wp2
          go_roundw
          case rel => exact ⟨k + 1, k + 1, _, _, _, by omega, Nat.le_refl _, by go_num, by go_num, HC8, HPL8, HFL8, HQ8, hid (fun i h1 h2 h3 => by omega), fun e => by omega⟩
          case measure => simp [intOf]; omega
        · have hz : ¬ (0 < cmpZ x1 y1) := by unfold cmpZ; by_cases h : x1 < y1; rw [if_pos h]; decide; rw [if_neg h, if_neg hf]; decide
          have HAD2 : Hid (∀ i, frm ≤ i → i < k + 1 → ∀ (h3 : i + 1 < l.length), (l[i]'(by omega)).1 ≤ l[i + 1].1) := hid (fun i h1 h2 h3 => by
            by_cases e : i = k
            · subst e
              rw [HX.out, HY.out]
              show x1 ≤ y1
              omega
            · exact HAD.out i h1 (by omega) h3)
          obtain ⟨Z, hZ⟩ : ∃ Z, cmpZ x1 y1 = Z := ⟨_, rfl⟩
          have hzz : decide (0 < Z) = false := by rw [← hZ]; simpa using hz
          rw [hZ] at HBT2 hz
          clear hZ hf
          refine wp_region_noPanic ?_
          refine wp_region_last (L := 1000) (S := fun w' => Kept wr w') (by kernel_rfl) ?_
          refine wpAnyN_take (i := 0) (v := .int .i64 ((k : Int) + 1)) rfl (by kernel_rfl) (by kernel_rfl) (by kernel_rfl) (by decide) (by kernel_rfl) (fun _ _ _ h => h) (Or.inl ⟨by kernel_rfl, ?_⟩) KA.out ?_
          · (intro w' hSw; go_simp)
          (try simp only [List.getElem_toArray, List.getElem_cons_succ, List.getElem_cons_zero])
          go_frame
          refine wpAnyN_take (i := 1) (v := .slice (some ⟨b, o, none⟩) L c) rfl (by kernel_rfl) (by kernel_rfl) (by kernel_rfl) (by decide) (by kernel_rfl) (fun _ _ _ h => h) (Or.inl ⟨by kernel_rfl, ?_⟩) KA.out ?_
          · (intro w' hSw; go_simp)
          (try simp only [List.getElem_toArray, List.getElem_cons_succ, List.getElem_cons_zero])
          go_frame
          refine wpAnyN_take (i := 2) (v := .int .i64 (L : Int)) rfl (by kernel_rfl) (by kernel_rfl) (by kernel_rfl) (by decide) (by kernel_rfl) (fun _ _ _ h => h) (Or.inl ⟨by kernel_rfl, ?_⟩) KA.out ?_
          · (intro w' hSw; go_simp)
          (try simp only [List.getElem_toArray, List.getElem_cons_succ, List.getElem_cons_zero])
          go_frame
          refine wpAnyN_take (i := 3) (v := .bool false) rfl (by kernel_rfl) (by kernel_rfl) (by kernel_rfl) (by decide) (by kernel_rfl) (fun _ _ _ h => h) (Or.inl ⟨by kernel_rfl, ?_⟩) KA.out ?_
          · (intro w' hSw; go_simp)
          (try simp only [List.getElem_toArray, List.getElem_cons_succ, List.getElem_cons_zero])
          go_frame
          refine wpAnyN_take (i := 4) (v := .bool false) rfl (by kernel_rfl) (by kernel_rfl) (by kernel_rfl) (by decide) (by kernel_rfl) (fun _ _ _ h => h) (Or.inl ⟨by kernel_rfl, ?_⟩) KA.out ?_
          · (intro w' hSw; go_simp)
          (try simp only [List.getElem_toArray, List.getElem_cons_succ, List.getElem_cons_zero])
          go_frame
          refine wpAnyN_take (i := 5) (v := .pointer (some ⟨hb, 0, none⟩)) rfl (by kernel_rfl) (by kernel_rfl) (by kernel_rfl) (by decide) (by kernel_rfl) (fun _ _ _ h => h) (Or.inl ⟨by kernel_rfl, ?_⟩) KA.out ?_
          · (intro w' hSw; go_simp)
          (try simp only [List.getElem_toArray, List.getElem_cons_succ, List.getElem_cons_zero])
          go_frame
          refine wpAnyN_take (i := 6) (v := .pointer (some ⟨hb, 0, none⟩)) rfl (by kernel_rfl) (by kernel_rfl) (by kernel_rfl) (by decide) (by kernel_rfl) (fun _ _ _ h => h) (Or.inl ⟨by kernel_rfl, ?_⟩) KA.out ?_
          · (intro w' hSw; go_simp)
          (try simp only [List.getElem_toArray, List.getElem_cons_succ, List.getElem_cons_zero])
          go_frame
          refine wpAnyN_take (i := 7) (v := .pointer (some ⟨hb, 1, none⟩)) rfl (by kernel_rfl) (by kernel_rfl) (by kernel_rfl) (by decide) (by kernel_rfl) (fun _ _ _ h => h) (Or.inl ⟨by kernel_rfl, ?_⟩) KA.out ?_
          · (intro w' hSw; go_simp)
          (try simp only [List.getElem_toArray, List.getElem_cons_succ, List.getElem_cons_zero])
          go_frame
          refine wpAnyN_take (i := 8) (v := fnV) rfl (by kernel_rfl) (by kernel_rfl) (by kernel_rfl) (by decide) (by kernel_rfl) (fun _ _ _ h => h) (Or.inl ⟨by kernel_rfl, ?_⟩) KA.out ?_
          · (intro w' hSw; have s0 := each_cell hSw _ _ B1.out; clear hSw; go_simp)
          (try simp only [List.getElem_toArray, List.getElem_cons_succ, List.getElem_cons_zero])
          go_frame
          refine wpAnyN_take (i := 9) (v := .slice (some ⟨b, o, none⟩) L c) rfl (by kernel_rfl) (by kernel_rfl) (by kernel_rfl) (by decide) (by kernel_rfl) (fun _ _ _ h => h) (Or.inl ⟨by kernel_rfl, ?_⟩) KA.out ?_
          · (intro w' hSw; go_simp)
          (try simp only [List.getElem_toArray, List.getElem_cons_succ, List.getElem_cons_zero])
          go_frame
          refine wpAnyN_take (i := 10) (v := .int .i64 (k : Int)) rfl (by kernel_rfl) (by kernel_rfl) (by kernel_rfl) (by decide) (by kernel_rfl) (fun _ _ _ h => h) (Or.inl ⟨by kernel_rfl, ?_⟩) KA.out ?_
          · (intro w' hSw; go_simp)
          (try simp only [List.getElem_toArray, List.getElem_cons_succ, List.getElem_cons_zero])
          go_frame
          refine wpAnyN_take (i := 11) (v := .pointer (some ⟨b, o + k * 2, none⟩)) rfl (by kernel_rfl) (by kernel_rfl) (by kernel_rfl) (by decide) (by kernel_rfl) (fun _ _ _ h => h) (Or.inl ⟨by kernel_rfl, ?_⟩) KA.out ?_
          · (intro w' hSw; go_simp)
          (try simp only [List.getElem_toArray, List.getElem_cons_succ, List.getElem_cons_zero])
          go_frame
          refine wpAnyN_take (i := 12) (v := .agg #[.slice la ln lc, .slice sa sn sc]) rfl (by kernel_rfl) (by kernel_rfl) (by kernel_rfl) (by decide) (by kernel_rfl) (fun _ _ _ h => h) (Or.inl ⟨by kernel_rfl, ?_⟩) KA.out ?_
          · (intro w' hSw; have s0 := each_cell hSw _ _ P0.out; have s1 := each_cell hSw _ _ P1.out; clear hSw; go_simp)
          (try simp only [List.getElem_toArray, List.getElem_cons_succ, List.getElem_cons_zero])
          go_frame
          refine wpAnyN_take (i := 13) (v := .slice (some ⟨b, o, none⟩) L c) rfl (by kernel_rfl) (by kernel_rfl) (by kernel_rfl) (by decide) (by kernel_rfl) (fun _ _ _ h => h) (Or.inl ⟨by kernel_rfl, ?_⟩) KA.out ?_
          · (intro w' hSw; go_simp)
          (try simp only [List.getElem_toArray, List.getElem_cons_succ, List.getElem_cons_zero])
          go_frame
          refine wpAnyN_take (i := 14) (v := .int .i64 ((k : Int) + 1)) rfl (by kernel_rfl) (by kernel_rfl) (by kernel_rfl) (by decide) (by kernel_rfl) (fun _ _ _ h => h) (Or.inl ⟨by kernel_rfl, ?_⟩) KA.out ?_
          · (intro w' hSw; go_simp)
          (try simp only [List.getElem_toArray, List.getElem_cons_succ, List.getElem_cons_zero])
          go_frame
          refine wpAnyN_take (i := 15) (v := .pointer (some ⟨b, o + (k + 1) * 2, none⟩)) rfl (by kernel_rfl) (by kernel_rfl) (by kernel_rfl) (by decide) (by kernel_rfl) (fun _ _ _ h => h) (Or.inl ⟨by kernel_rfl, ?_⟩) KA.out ?_
          · (intro w' hSw; (try go_simp); (try omega))
          (try simp only [List.getElem_toArray, List.getElem_cons_succ, List.getElem_cons_zero])
          go_frame
          refine wpAnyN_take (i := 16) (v := .agg #[.slice lb lm ld, .slice sb sm sd]) rfl (by kernel_rfl) (by kernel_rfl) (by kernel_rfl) (by decide) (by kernel_rfl) (fun _ _ _ h => h) (Or.inl ⟨by kernel_rfl, ?_⟩) KA.out ?_
          · (intro w' hSw; have s0 := each_cell hSw _ _ Q0.out; have s1 := each_cell hSw _ _ Q1.out; clear hSw; go_simp)
          (try simp only [List.getElem_toArray, List.getElem_cons_succ, List.getElem_cons_zero])
          go_frame
          refine wpAnyL_one (i := 17) (by kernel_rfl) rfl (by kernel_rfl) ?_
          go_simp
          refine HBT2.out.mono ?_
          rintro e wb ⟨rfl, kk⟩
          have KB := hid (show Kept wr wb from KA.out.trans kk (fun _ _ f => f))
          clear kk HBT2
          refine ⟨KB.out, ?_⟩
          (try simp only [List.getElem_toArray, List.getElem_cons_succ, List.getElem_cons_zero])
          (try go_frame)
          refine wpAnyL_one (i := 18) (by kernel_rfl) rfl (by kernel_rfl) ?_
          go_simp
          refine ⟨KB.out, ?_⟩
          (try simp only [List.getElem_toArray, List.getElem_cons_succ, List.getElem_cons_zero])
          (try go_frame)
          refine wpAnyL_one (i := 19) (by kernel_rfl) rfl (by kernel_rfl) ?_
          go_simp
          refine ⟨KB.out, ?_⟩
          (try go_frame)
          refine wpAnyN_done (by kernel_rfl) ?_
          refine NoPanic.normal ?_
          have HC2 := hid (HC.out.keep KB.out)
          clear KA P0 P1 Q0 Q1 B1 hblt HSR
          go_wp2
          go_roundw
          case rel => exact ⟨k + 1, frm, h', a4, c4, by omega, by omega, by go_num, rfl, HC2, HPL, HFL, HLN, HAD2, fun e => absurd e (by omega)⟩
          case measure => simp [intOf]; omega
    · have hke : k = L := by omega
      have HF : Hid (R (.returned (.tuple #[])) wr) := hid (by
        rw [← HRR.out]
        refine ⟨rfl, h', a4, c4, HC.out, HPL.out, ?_, ?_⟩
        · rw [HFL.out, List.take_of_length_le (by have := HL.out; have := hend hke; omega)]
        · have := HLN.out; omega)
      go_wp2
      go_end0
      exact HF.out
end Go.Proofs.Ytcacoanhiphbiaa.Ms
