/-
  The document's own head, second part; the law's own functions.
-/
import Derived.Test.YtnbfbnhiikliaaaGreatPa
import Derived.Handy
import Derived.Test.YtnbfbnhiikliaaaGreatLcut13
import Derived.Test.YtnbfbnhiikliaaaGreatHopen2
import Derived.Test.YtnbfbnhiikliaaaGreatNopen

/-
  The document's own head: one row of a new series.
-/
namespace Go.Proofs.YtnbfbnhiikliaaaGreat.Hd
open Go.RowKit Go.Proofs.Lys Go.Maps Go.Proofs.YtnbfbnhiikliaaaGreat.N
set_option linter.unusedVariables false
set_option linter.unusedSimpArgs false

/-- What stands when the parts of the new row of series lie there. -/
structure NoP (w3 : World) (ql : List SV) (T V : Int) (uv v3 : Value) (sb lb : Nat) (X : World) : Prop where
  own : X.ownsRow w3.heap.size 56 2 v3 ql.length (svL ql)
  kept : Kept w3 X
  smp : Blk X sb [.int .i64 T, .int .i64 V] 38
  ser : Blk X lb [uv, .slice (some ⟨sb, 0, none⟩) 1 1] 56
  lo : w3.heap.size ≤ sb
/-- What stands when they are put together. -/
structure NoD (w3 : World) (qs' : List SV) (T V : Int) (v6 : Value) (sb : Nat) (X : World) : Prop where
  own : X.ownsRow w3.heap.size 56 2 v6 qs'.length (svL qs')
  kept : Kept w3 X
  smp : Blk X sb [.int .i64 T, .int .i64 V] 38
  lo : w3.heap.size ≤ sb
theorem no_tail {w3 : World} {ql qr : List SV} {T V : Int} {uv v3 v13 : Value} {sb lb : Nat} {X : World} (hP : NoP w3 ql T V uv v3 sb lb X) (huv : ∃ a n c, uv = .slice a n c) (hpl : SvPlain ql) (hr : SvCells w3 v13 qr) (hpr : SvPlain qr) (hl : ql.length + qr.length ≤ 100000) (l : Labs) (s : Smps) :
    ∃ v5 X5 v6 X6, Hid ((Builtin.append_ #[47, 47] 0 #[v3, .slice (some ⟨lb, 0, none⟩) 1 1]).run Tryz.prog X = .ok v5 X5) ∧ Hid ((Builtin.append_ #[47, 47] 0 #[v5, v13]).run Tryz.prog X5 = .ok v6 X6) ∧ Kept w3 X5 ∧
      NoD w3 (ql ++ [⟨uv, .slice (some ⟨sb, 0, none⟩) 1 1, l, s⟩] ++ qr) T V v6 sb X6 := by
  have hlit : SvCells X (.slice (some ⟨lb, 0, none⟩) 1 1) [⟨uv, .slice (some ⟨sb, 0, none⟩) 1 1, l, s⟩] := .inr ⟨lb, 0, 1, rfl, fun i hi => by
    have : i = 0 := by simpa using hi
    subst this
    exact ⟨hP.ser.cell 0 rfl, hP.ser.cell 1 rfl⟩⟩
  have hpq : SvPlain [⟨uv, .slice (some ⟨sb, 0, none⟩) 1 1, l, s⟩] := fun q hq => by
    have : q = ⟨uv, .slice (some ⟨sb, 0, none⟩) 1 1, l, s⟩ := by simpa using hq
    subst this
    exact ⟨huv, _, _, _, rfl⟩
  obtain ⟨v5, X5, r5, o5, g5, _⟩ := sv_append hP.own hlit hpq (by simp; omega) hP.kept.size
  have hon5 : Only (fun j => v3.ownBlock = some j) X X5 := (Only.refl _ X).grown g5 (fun j e _ => e)
  have k5 : Kept w3 X5 := hP.kept.trans hon5 (fun j hj e => by have := (ownN_lt hP.own e).1; omega)
  have s5 : Blk X5 sb [.int .i64 T, .int .i64 V] 38 := hon5.blk hP.smp (fun e => (hP.smp.typed).ne (ownN_typed hP.own e) (by decide) rfl)
  obtain ⟨v6, X6, r6, o6, g6, _⟩ := sv_append o5 (hr.stay k5) hpr (by simp; omega) k5.size
  have hon6 : Only (fun j => v5.ownBlock = some j) X5 X6 := (Only.refl _ X5).grown g6 (fun j e _ => e)
  exact ⟨v5, X5, v6, X6, r5, r6, k5, ⟨o6, k5.trans hon6 (fun j hj e => by have := (ownN_lt o5 e).1; omega), hon6.blk s5 (fun e => (s5.typed).ne (ownN_typed o5 e) (by decide) rfl), hP.lo⟩⟩

section
variable {w : World} {Z : Nat → Prop} {B rb : Nat} {win : Int} {v : Value} {qs : List SV}
theorem ref_new (h : RefAt w Z B rb win v qs) (hZ : ∀ j, Z j → j < w.heap.size) (hB : B ≤ w.heap.size) {w3 X : World} (k3 : Kept w w3) {k : Nat} {T V : Int} {uv v6 : Value} {sb : Nat} {l : Labs} (hu : LabAt w3 w.heap.size uv l) (hD : NoD w3 (qs.take k ++ [⟨uv, .slice (some ⟨sb, 0, none⟩) 1 1, l, [(T, V)]⟩] ++ qs.drop k) T V v6 sb X) :
    X.frozen? ⟨rb, 1, none⟩ = false ∧ (∃ x, X.cell? ⟨rb, 1, none⟩ = some x) ∧
    RefAt (X.setCell ⟨rb, 1, none⟩ v6) (newZ Z w (X.setCell ⟨rb, 1, none⟩ v6) v6) B rb win v6 (qs.take k ++ [⟨uv, .slice (some ⟨sb, 0, none⟩) 1 1, l, [(T, V)]⟩] ++ qs.drop k) ∧
    Only (fun j => j = rb ∨ v.ownBlock = some j) w (X.setCell ⟨rb, 1, none⟩ v6) := by
  have kX : Kept w X := k3.trans hD.kept (fun _ _ f => f)
  have hX := h.stay kX
  have hrb : rb < w.heap.size := h.blk.lt
  have hon : Only (fun j => j = rb) w (X.setCell ⟨rb, 1, none⟩ v6) := (kX.mono (O' := fun j => j = rb) (fun _ _ f => f.elim)).setCell (p := ⟨rb, 1, none⟩) (fun _ => rfl) _
  have honX : Only (fun j => j = rb) X (X.setCell ⟨rb, 1, none⟩ v6) := (Only.refl (fun j => j = rb) X).setCell (p := ⟨rb, 1, none⟩) (fun _ => rfl) _
  have hk3 := k3.size
  have hsz : X.heap.size ≤ (X.setCell ⟨rb, 1, none⟩ v6).heap.size := honX.size
  have old : ∀ q ∈ qs, SvR (X.setCell ⟨rb, 1, none⟩ v6) (newZ Z w (X.setCell ⟨rb, 1, none⟩ v6) v6) q := fun q hq =>
    ((h.read q hq).only hon (fun j hj e => by subst e; exact h.ne.1 hj)).weak (fun j hj => .inl hj)
  have hlo := hD.lo
  have hsm := honX.blk hD.smp (fun e => by omega)
  have hu' := ownN_only (ownN_stay hu hD.kept) honX (fun b hb e => by subst e; have := (ownN_lt hu hb).1; omega)
  refine ⟨hX.blk.frozen 1, ⟨_, hX.blk.cell 1 rfl⟩, ⟨?_, ?_, fun q hq => ?_, ?_, fun j hj hz => ?_⟩, hon.mono (fun j _ e => .inl e)⟩
  · exact hX.blk.set 1 v6
  · exact ownN_base (ownN_only hD.own honX (fun b hb e => by subst e; have := (ownN_lt hD.own hb).1; omega)) (by omega)
  · rcases List.mem_append.1 hq with hq | hq
    · rcases List.mem_append.1 hq with hq | hq
      · exact old q (List.mem_of_mem_take hq)
      · have e : q = ⟨uv, .slice (some ⟨sb, 0, none⟩) 1 1, l, [(T, V)]⟩ := by simpa using hq
        subst e
        refine ⟨LabAt.src hu', .inr ⟨by simp, sb, 0, 1, rfl, fun i hi => ?_⟩, own_inZ hu' (fun j hj => .inr ⟨(ownN_lt hu hj).1, ?_, ?_⟩), ?_, ⟨_, _, rfl, Nat.le_refl _⟩⟩
        · have : i = 0 := by simpa using hi
          subst this
          exact ⟨hsm.cell 0 rfl, hsm.cell 1 rfl⟩
        · have h1 := (ownN_lt hu hj).2
          have h2 := hD.kept.size
          exact Nat.lt_of_lt_of_le (by omega) hsz
        · intro e
          have h1 := (ownN_lt hu hj).2
          have h2 := (ownN_lt hD.own e).1
          omega
        · intro a n c e hn
          cases e
          exact .inr ⟨by show w.heap.size ≤ sb; omega, hsm.lt, fun e => (hD.smp.typed).ne (ownN_typed hD.own e) (by decide) rfl⟩
    · exact old q (List.mem_of_mem_drop hq)
  · intro hz
    rcases hz with hz | ⟨h1, _⟩
    · exact h.ne.1 hz
    · omega
  · rcases hz with hz | ⟨h1, _, h3⟩
    · have h1 := hZ j hz
      have h2 := (ownN_lt hD.own hj).1
      omega
    · exact h3 hj

set_option maxRecDepth 100000 in
set_option maxHeartbeats 6400000 in
theorem rrow_no (h : RefAt w Z B rb win v qs) (hZ : ∀ j, Z j → j < w.heap.size) (hBw : B ≤ w.heap.size) (hok : ModOk (qs.map serV)) (lv : Value) (r : Row) (hl : LabSrc w lv r.1) (hls : r.1.length ≤ 100000) (hsm : Small r.1) (l : Labs) (hm : makeL r.1 = some l) (ht : -9007199254740992 ≤ r.2.1 ∧ r.2.1 ≤ 9007199254740992) (hlk : lookM (qs.map serV) l = none) :
    Calls Tryz.prog 39 #[.pointer (some ⟨rb, 0, none⟩), .agg #[lv, .int .i64 r.2.1, .int .i64 r.2.2], .int .i64 (-9007199254740992)] w (RowA w Z B rb win v (qs.map serV) r) := by
  have HR : Hid (rowM win (qs.map serV) r = if 1000 ≤ qs.length then .error 2 else .ok (setM l [r.2] (qs.map serV))) := by
    show _ = _
    unfold rowM
    rw [hm]
    simp only
    rw [if_neg (by omega), hlk, List.length_map]
  have hmm := makeL_made hm
  have hn : qs.length ≤ 1000 := by have := hok.len; rw [List.length_map] at this; omega
  have hll : ∀ q ∈ qs, q.labs.length ≤ 1000000 := fun q hq => by have := (hok.made _ (List.mem_map_of_mem (f := serV) hq)).len16; show (serV q).1.length ≤ _; omega
  have HM := hid (fun (W : World) (k : Kept w W) => rmake_any W lv r.1 (hl.stay k) hls hsm)
  have HAT := hid (fun W (k : Kept w W) lv m (hm : LabSrc W lv m) (hml : m.length ≤ 1000000) => rat_any (h.stay k) (by omega) hll lv m hm hml)
  rw [hm] at HM
  obtain ⟨a1, c1, rfl⟩ := hl.len
  have HH := hid h
  have HOK := hid hok
  have HLK := hid hlk
  have HML := hid hmm
  have HZ := hid hZ
  obtain ⟨rl, T, V⟩ := r
  simp only at *
  generalize rl.length = L at *
  have HB := hid (Blk.new w [.slice a1 L c1, .int .i64 T, .int .i64 V] 40)
  have HK := hid ((Only.refl (fun _ => False) w).alloc (.cells #[.slice a1 L c1, .int .i64 T, .int .i64 V] 40))
  have hsz : (w.alloc (.cells #[.slice a1 L c1, .int .i64 T, .int .i64 V] 40)).heap.size = w.heap.size + 1 := by simp
  have d1 : decide (T < -9007199254740992) = false := decide_eq_false (by omega)
  have d2 : decide (9007199254740992 < T) = false := decide_eq_false (by omega)
  clear hl hm hlk h hok hmm hll hsm hls hZ
  go_enter Tryz.func39, Tryz.ntmps39
  go_wp2_with fail
  generalize w.alloc (.cells #[.slice a1 L c1, .int .i64 T, .int .i64 V] 40) = w0 at HB HK hsz ⊢
  refine (HM.out _ HK.out).mono ?_
  rintro e w1 ⟨⟨u, m, rfl, hA⟩, k1⟩
  obtain ⟨rfl, hlab⟩ := hA
  have HK1 := hid (HK.out.trans k1 (fun _ _ f => f))
  have HB1 := hid (Only.blk k1 HB.out (fun f => f))
  have y1 := HB1.out.cell 1 rfl
  have HA2 := hid (HAT.out w1 HK1.out _ l (LabAt.src hlab) (by have := HML.out.len16; omega))
  have HLab := hid (ownN_base hlab (b' := w.heap.size) (by omega))
  clear k1 hlab HM HAT
  go_wp2_with fail
  refine HA2.out.mono ?_
  rintro e w2 ⟨⟨k, ok, rfl, hst⟩, k2⟩
  have HK2 := hid (HK1.out.trans k2 (fun _ _ f => f))
  have HB2 := hid (Only.blk k2 HB1.out (fun f => f))
  have HLab2 := hid (ownN_stay HLab.out k2)
  cases ok with
  | true =>
    obtain ⟨hk', this⟩ := stand_yes HOK.out.sort hst
    rw [HLK.out] at this
    cases this
  | false =>
  have hkM := hst.le
  rw [List.length_map] at hkM
  have HSET : Hid (∀ t, setM l t (qs.map serV) = (qs.map serV).take k ++ (l, t) :: (qs.map serV).drop k) := hid (fun t => setM_in _ k l t hst.le (fun i hi hi' => hst.pre i hi hi') (hst.no rfl))
  have hR2 := HH.out.stay HK2.out
  obtain ⟨ra, rc, hv, hcap⟩ := own_cap HH.out.row
  subst hv
  have b2 := hR2.blk.cell 1 rfl
  have hcl := own_cells hR2.row
  have hpl := SvR.plain hR2.read
  obtain ⟨fa, fc, hfrom, hcf⟩ := sv_from hcl hcap hkM
  obtain ⟨pa, pc, hto, hct⟩ := sv_to hcl hcap hkM
  have hplF : SvPlain (qs.drop k) := fun q hq => hpl q (List.mem_of_mem_drop hq)
  have hplT : SvPlain (qs.take k) := fun q hq => hpl q (List.mem_of_mem_take hq)
  obtain ⟨v13, w3, R13, o13, k13⟩ := sv_copy hcf hplF (by rw [List.length_drop]; omega)
  have hkT : (qs.take k).length = k := by rw [List.length_take]; omega
  have HCP : Hid (∀ X, Kept w3 X → ∃ v3 X', Hid ((Builtin.append_ #[47, 47] 0 #[.slice none 0 0, .slice pa k pc]).run Tryz.prog X = .ok v3 X') ∧ X'.ownsRow w3.heap.size 56 2 v3 (qs.take k).length (svL (qs.take k)) ∧ Kept X X') := hid (fun X kX => by
    obtain ⟨v3, X', a, b, c⟩ := sv_copy (hct.stay (k13.trans kX (fun _ _ f => f))) hplT (by omega)
    exact ⟨v3, X', a, ownN_base b kX.size, c⟩)
  have HK3 := hid (HK2.out.trans k13 (fun _ _ f => f))
  obtain ⟨ua, uc, hue⟩ := ownN_slice HLab2.out
  have HLab3 := hid (ownN_stay HLab2.out k13)
  have HTL := hid (fun (v3 : Value) (sb lb : Nat) (X : World) (hP : NoP w3 (qs.take k) T V u v3 sb lb X) => no_tail hP ⟨_, _, _, hue⟩ hplT (own_cells o13) hplF (by rw [List.length_take, List.length_drop]; omega) l [(T, V)])
  have HFN := hid (fun (v6 : Value) (sb : Nat) (X : World) (hD : NoD w3 (qs.take k ++ [⟨u, .slice (some ⟨sb, 0, none⟩) 1 1, l, [(T, V)]⟩] ++ qs.drop k) T V v6 sb X) => ref_new HH.out HZ.out hBw HK3.out HLab3.out hD)
  have HB3 := Only.blk k13 HB2.out (fun f => f)
  have hR3 := (hR2.stay k13).blk
  have S0 : Hid (∀ W, Kept w3 W → W.cell? ⟨rb, 1, none⟩ = some (.slice ra qs.length rc) ∧ W.cell? ⟨w.heap.size, 1, none⟩ = some (.int .i64 T) ∧ W.cell? ⟨w.heap.size, 2, none⟩ = some (.int .i64 V)) := hid (fun W kW => ⟨only_cell kW (fun f => f) (hR3.cell 1 rfl), only_cell kW (fun f => f) (HB3.cell 1 rfl), only_cell kW (fun f => f) (HB3.cell 2 rfl)⟩)
  have hz3 := hid (fun (W : World) (kW : Kept w3 W) => kW.size)
  subst hue
  clear k2 hst hR2 hcl hcf hct hplF hplT hpl k13 HB3 hR3 HB1 y1 HA2 HLab HLab2 hkT
  obtain ⟨g13, cap13, hv13⟩ := ownN_slice o13
  subst hv13
  generalize hbx : w.heap.size = bx at S0 HB2 ⊢
  generalize (qs.drop k).length = LD at *
  generalize l.length = LL at *
  have HKM := hid hkM
  obtain ⟨NQ, hNQ⟩ : ∃ NQ, qs.length = NQ := ⟨_, rfl⟩
  rw [hNQ] at hfrom hto b2 S0 HR hkM hn hcap R13 ⊢
  by_cases h1000 : 1000 ≤ NQ
  · have HF : Hid ((if 1000 ≤ NQ then (Except.error 2 : Except Int Mod) else .ok (setM l [(T, V)] (qs.map serV))) = .error 2) := hid (if_pos h1000)
    clear HCP HTL HFN S0 R13 o13
    go_wp2_with fail
    go_ret
    exact .inl ⟨2, by rw [HR.out]; exact HF.out, rfl, by decide, HK2.out⟩
  · have HF : Hid ((if 1000 ≤ NQ then (Except.error 2 : Except Int Mod) else .ok (setM l [(T, V)] (qs.map serV))) = .ok (setM l [(T, V)] (qs.map serV))) := hid (if_neg h1000)
    clear o13
    go_wp2_with (at_builtin; refine wpList_append_run rfl _ _ _ rfl rfl rfl R13 ?_)
    refine wp_region_noPanic ?_
    refine wp_region_last (L := 19) (S := fun w' => Kept w3 w') (by kernel_rfl) ?_
    have K0 := hid (show Kept w3 w3.drew from (Only.refl _ _).drew)
    have hS : (fun w' : World => Kept w3 w') w3.drew := K0.out
    refine wpAnyL_take (i := 0) (v := .pointer (some ⟨rb, 0, none⟩)) rfl (by kernel_rfl) (by kernel_rfl) (by kernel_rfl) (by kernel_rfl) (by kernel_rfl) (fun _ _ _ h => h) (Or.inl ⟨by rfl, ?_⟩) hS ?_
    · (intro w' hSw; obtain ⟨s0, s1, s2⟩ := S0.out w' hSw; clear hSw; go_simp)
    (try simp only [List.getElem_toArray, List.getElem_cons_succ, List.getElem_cons_zero])
    go_frame
    refine wpAnyL_take (i := 1) (v := .pointer (some ⟨rb, 0, none⟩)) rfl (by kernel_rfl) (by kernel_rfl) (by kernel_rfl) (by kernel_rfl) (by kernel_rfl) (fun _ _ _ h => h) (Or.inl ⟨by rfl, ?_⟩) hS ?_
    · (intro w' hSw; obtain ⟨s0, s1, s2⟩ := S0.out w' hSw; clear hSw; go_simp)
    (try simp only [List.getElem_toArray, List.getElem_cons_succ, List.getElem_cons_zero])
    go_frame
    refine wpAnyL_take (i := 2) (v := .pointer (some ⟨rb, 0, none⟩)) rfl (by kernel_rfl) (by kernel_rfl) (by kernel_rfl) (by kernel_rfl) (by kernel_rfl) (fun _ _ _ h => h) (Or.inl ⟨by rfl, ?_⟩) hS ?_
    · (intro w' hSw; obtain ⟨s0, s1, s2⟩ := S0.out w' hSw; clear hSw; go_simp)
    (try simp only [List.getElem_toArray, List.getElem_cons_succ, List.getElem_cons_zero])
    go_frame
    refine wpAnyL_take (i := 3) (v := .pointer (some ⟨rb, 1, none⟩)) rfl (by kernel_rfl) (by kernel_rfl) (by kernel_rfl) (by kernel_rfl) (by kernel_rfl) (fun _ _ _ h => h) (Or.inl ⟨by rfl, ?_⟩) hS ?_
    · (intro w' hSw; obtain ⟨s0, s1, s2⟩ := S0.out w' hSw; clear hSw; go_simp)
    (try simp only [List.getElem_toArray, List.getElem_cons_succ, List.getElem_cons_zero])
    go_frame
    refine wpAnyL_take (i := 4) (v := .slice ra NQ rc) rfl (by kernel_rfl) (by kernel_rfl) (by kernel_rfl) (by kernel_rfl) (by kernel_rfl) (fun _ _ _ h => h) (Or.inl ⟨by rfl, ?_⟩) hS ?_
    · (intro w' hSw; obtain ⟨s0, s1, s2⟩ := S0.out w' hSw; clear hSw; go_simp)
    (try simp only [List.getElem_toArray, List.getElem_cons_succ, List.getElem_cons_zero])
    go_frame
    refine wpAnyL_take (i := 5) (v := .int .i64 (k : Int)) rfl (by kernel_rfl) (by kernel_rfl) (by kernel_rfl) (by kernel_rfl) (by kernel_rfl) (fun _ _ _ h => h) (Or.inl ⟨by rfl, ?_⟩) hS ?_
    · (intro w' hSw; obtain ⟨s0, s1, s2⟩ := S0.out w' hSw; clear hSw; go_simp)
    (try simp only [List.getElem_toArray, List.getElem_cons_succ, List.getElem_cons_zero])
    go_frame
    refine wpAnyL_take (i := 6) (v := .slice pa k pc) rfl (by kernel_rfl) (by kernel_rfl) (by kernel_rfl) (by kernel_rfl) (by kernel_rfl) (fun _ _ _ h => h) (Or.inl ⟨by rfl, ?_⟩) hS ?_
    · (intro w' hSw; obtain ⟨s0, s1, s2⟩ := S0.out w' hSw; clear hSw; go_simp)
    (try simp only [List.getElem_toArray, List.getElem_cons_succ, List.getElem_cons_zero])
    go_frame
    refine wpAnyL_take (i := 8) (v := .slice ua LL uc) rfl (by kernel_rfl) (by kernel_rfl) (by kernel_rfl) (by kernel_rfl) (by kernel_rfl) (fun _ _ _ h => h) (Or.inl ⟨by rfl, ?_⟩) hS ?_
    · (intro w' hSw; obtain ⟨s0, s1, s2⟩ := S0.out w' hSw; clear hSw; go_simp)
    (try simp only [List.getElem_toArray, List.getElem_cons_succ, List.getElem_cons_zero])
    go_frame
    refine wpAnyL_take (i := 9) (v := .pointer (some ⟨bx, 1, none⟩)) rfl (by kernel_rfl) (by kernel_rfl) (by kernel_rfl) (by kernel_rfl) (by kernel_rfl) (fun _ _ _ h => h) (Or.inl ⟨by rfl, ?_⟩) hS ?_
    · (intro w' hSw; obtain ⟨s0, s1, s2⟩ := S0.out w' hSw; clear hSw; go_simp)
    (try simp only [List.getElem_toArray, List.getElem_cons_succ, List.getElem_cons_zero])
    go_frame
    refine wpAnyL_take (i := 10) (v := .agg #[.int .i64 T, .int .i64 V]) rfl (by kernel_rfl) (by kernel_rfl) (by kernel_rfl) (by kernel_rfl) (by kernel_rfl) (fun _ _ _ h => h) (Or.inl ⟨by rfl, ?_⟩) hS ?_
    · (intro w' hSw; obtain ⟨s0, s1, s2⟩ := S0.out w' hSw; clear hSw; go_simp)
    (try simp only [List.getElem_toArray, List.getElem_cons_succ, List.getElem_cons_zero])
    go_frame
    refine wpAnyL_take (i := 15) (v := .slice g13 LD cap13) rfl (by kernel_rfl) (by kernel_rfl) (by kernel_rfl) (by kernel_rfl) (by kernel_rfl) (fun _ _ _ h => h) (Or.inl ⟨by rfl, ?_⟩) hS ?_
    · (intro w' hSw; obtain ⟨s0, s1, s2⟩ := S0.out w' hSw; clear hSw; go_simp)
    (try simp only [List.getElem_toArray, List.getElem_cons_succ, List.getElem_cons_zero])
    go_frame
    clear hS
    refine wpAnyL_two (i := 7) (j := 11) (by kernel_rfl) rfl rfl rfl rfl ?_ ?_
    · obtain ⟨v3, X3, R3, hv3, k3⟩ := HCP.out w3.drew K0.out
      have K3 := hid (show Kept w3 X3 from K0.out.trans k3 (fun _ _ f => f))
      refine oper_appendH _ _ _ rfl rfl rfl R3 ?_
      refine ⟨K3.out, ?_⟩
      go_frame
      refine wpAnyL_one (i := 11) (by kernel_rfl) rfl rfl ?_
      go_simp
      have HS := hid (show Kept w3 (X3.alloc (.cells #[.int .i64 T, .int .i64 V] 38)) from K3.out.alloc _)
      refine ⟨HS.out, ?_⟩
      (try go_frame)
      refine wpAnyL_take (i := 12) (v := .agg #[.slice ua LL uc, .slice (some ⟨X3.heap.size, 0, none⟩) 1 1]) rfl (by kernel_rfl) (by kernel_rfl) (by kernel_rfl) (by kernel_rfl) (by kernel_rfl) (fun _ _ _ h => h) (Or.inl ⟨by rfl, ?_⟩) HS.out ?_
      · (intro w' hSw; obtain ⟨s0, s1, s2⟩ := S0.out w' hSw; clear hSw; go_simp)
      (try simp only [List.getElem_toArray, List.getElem_cons_succ, List.getElem_cons_zero])
      go_frame
      refine wpAnyL_one (i := 13) (by kernel_rfl) rfl rfl ?_
      go_simp
      have hq1 : (X3.alloc (.cells #[.int .i64 T, .int .i64 V] 38)).heap.size = X3.heap.size + 1 := by simp
      refine ⟨HS.out.alloc _, ?_⟩
      (try go_frame)
      have hP : NoP w3 (qs.take k) T V (.slice ua LL uc) v3 X3.heap.size (X3.heap.size + 1) ((X3.alloc (.cells #[.int .i64 T, .int .i64 V] 38)).alloc (.cells #[.slice ua LL uc, .slice (some ⟨X3.heap.size, 0, none⟩) 1 1] 56)) := ⟨ownN_stay hv3 (((Only.refl (fun _ => False) X3).alloc _).alloc _), HS.out.alloc _, (Blk.new X3 [.int .i64 T, .int .i64 V] 38).alloc _, by have := Blk.new (X3.alloc (.cells #[.int .i64 T, .int .i64 V] 38)) [.slice ua LL uc, .slice (some ⟨X3.heap.size, 0, none⟩) 1 1] 56; rw [hq1] at this; exact this, K3.out.size⟩
      obtain ⟨v5, X5, v6, X6, R5, R6, k5, hD⟩ := HTL.out _ _ _ _ hP
      obtain ⟨f6, ⟨x6, c6⟩, hfin, hon⟩ := HFN.out _ _ _ hD
      have KX5 := hid k5
      have KX6 := hid hD.kept
      have HFIN := hid hfin
      have HON := hid hon
      clear hP k5 hD hfin hon
      refine wpAnyL_one (i := 14) (by kernel_rfl) rfl rfl (oper_appendH _ _ _ rfl rfl rfl R5 ?_)
      refine ⟨KX5.out, ?_⟩
      go_frame
      refine wpAnyL_one (i := 16) (by kernel_rfl) rfl rfl (oper_appendH _ _ _ rfl rfl rfl R6 ?_)
      refine ⟨KX6.out, ?_⟩
      go_frame
      refine wpAnyL_one (i := 17) (by kernel_rfl) rfl rfl ?_
      go_simp
      refine ⟨KX6.out, ?_⟩
      (try go_frame)
      refine wpAnyL_one (i := 18) (by kernel_rfl) rfl rfl ?_
      go_simp
      refine ⟨KX6.out, ?_⟩
      (try go_frame)
      obtain ⟨za, zc, hz6⟩ : ∃ a c, v6 = .slice a (qs.take k ++ [(⟨.slice ua LL uc, .slice (some ⟨X3.heap.size, 0, none⟩) 1 1, l, [(T, V)]⟩ : SV)] ++ qs.drop k).length c := ownN_slice HFIN.out.row
      generalize (qs.take k ++ [(⟨.slice ua LL uc, .slice (some ⟨X3.heap.size, 0, none⟩) 1 1, l, [(T, V)]⟩ : SV)] ++ qs.drop k).length = L6 at hz6
      subst hz6
      refine wpAnyL_last (by kernel_rfl) (by kernel_rfl) rfl rfl ?_
      go_simp
      refine NoPanic.normal ?_
      go_wp2_with fail
      go_ret
      refine .inr ⟨_, _, _, by rw [HR.out]; exact HF.out, rfl, HFIN.out, ?_, HON.out⟩
      rw [HSET.out, List.map_append, List.map_append, List.map_take, List.map_drop, List.append_assoc]
      rfl
    · go_simp
      have HS := hid (show Kept w3 (w3.drew.alloc (.cells #[.int .i64 T, .int .i64 V] 38)) from K0.out.alloc _)
      refine ⟨HS.out, ?_⟩
      (try go_frame)
      refine wpAnyL_take (i := 12) (v := .agg #[.slice ua LL uc, .slice (some ⟨w3.heap.size, 0, none⟩) 1 1]) rfl (by kernel_rfl) (by kernel_rfl) (by kernel_rfl) (by kernel_rfl) (by kernel_rfl) (fun _ _ _ h => h) (Or.inl ⟨by rfl, ?_⟩) HS.out ?_
      · (intro w' hSw; obtain ⟨s0, s1, s2⟩ := S0.out w' hSw; clear hSw; go_simp)
      (try simp only [List.getElem_toArray, List.getElem_cons_succ, List.getElem_cons_zero])
      go_frame
      refine wpAnyL_two (i := 7) (j := 13) (by kernel_rfl) rfl rfl rfl rfl ?_ ?_
      · obtain ⟨v3, X3, R3, hv3, k3⟩ := HCP.out (w3.drew.alloc (.cells #[.int .i64 T, .int .i64 V] 38)) HS.out
        have K3 := hid (show Kept w3 X3 from HS.out.trans k3 (fun _ _ f => f))
        refine oper_appendH _ _ _ rfl rfl rfl R3 ?_
        refine ⟨K3.out, ?_⟩
        go_frame
        refine wpAnyL_one (i := 13) (by kernel_rfl) rfl rfl ?_
        go_simp
        refine ⟨K3.out.alloc _, ?_⟩
        (try go_frame)
        have hP : NoP w3 (qs.take k) T V (.slice ua LL uc) v3 w3.heap.size X3.heap.size (X3.alloc (.cells #[.slice ua LL uc, .slice (some ⟨w3.heap.size, 0, none⟩) 1 1] 56)) := ⟨ownN_stay hv3 ((Only.refl (fun _ => False) X3).alloc _), K3.out.alloc _, (k3.blk (Blk.new w3.drew [.int .i64 T, .int .i64 V] 38) (fun f => f)).alloc _, Blk.new X3 [.slice ua LL uc, .slice (some ⟨w3.heap.size, 0, none⟩) 1 1] 56, Nat.le_refl _⟩
        obtain ⟨v5, X5, v6, X6, R5, R6, k5, hD⟩ := HTL.out _ _ _ _ hP
        obtain ⟨f6, ⟨x6, c6⟩, hfin, hon⟩ := HFN.out _ _ _ hD
        have KX5 := hid k5
        have KX6 := hid hD.kept
        have HFIN := hid hfin
        have HON := hid hon
        clear hP k5 hD hfin hon
        refine wpAnyL_one (i := 14) (by kernel_rfl) rfl rfl (oper_appendH _ _ _ rfl rfl rfl R5 ?_)
        refine ⟨KX5.out, ?_⟩
        go_frame
        refine wpAnyL_one (i := 16) (by kernel_rfl) rfl rfl (oper_appendH _ _ _ rfl rfl rfl R6 ?_)
        refine ⟨KX6.out, ?_⟩
        go_frame
        refine wpAnyL_one (i := 17) (by kernel_rfl) rfl rfl ?_
        go_simp
        refine ⟨KX6.out, ?_⟩
        (try go_frame)
        refine wpAnyL_one (i := 18) (by kernel_rfl) rfl rfl ?_
        go_simp
        refine ⟨KX6.out, ?_⟩
        (try go_frame)
        obtain ⟨za, zc, hz6⟩ : ∃ a c, v6 = .slice a (qs.take k ++ [(⟨.slice ua LL uc, .slice (some ⟨w3.heap.size, 0, none⟩) 1 1, l, [(T, V)]⟩ : SV)] ++ qs.drop k).length c := ownN_slice HFIN.out.row
        generalize (qs.take k ++ [(⟨.slice ua LL uc, .slice (some ⟨w3.heap.size, 0, none⟩) 1 1, l, [(T, V)]⟩ : SV)] ++ qs.drop k).length = L6 at hz6
        subst hz6
        refine wpAnyL_last (by kernel_rfl) (by kernel_rfl) rfl rfl ?_
        go_simp
        refine NoPanic.normal ?_
        go_wp2_with fail
        go_ret
        refine .inr ⟨_, _, _, by rw [HR.out]; exact HF.out, rfl, HFIN.out, ?_, HON.out⟩
        rw [HSET.out, List.map_append, List.map_append, List.map_take, List.map_drop, List.append_assoc]
        rfl
      · go_simp
        have HS2 := hid (show Kept w3 ((w3.drew.alloc (.cells #[.int .i64 T, .int .i64 V] 38)).alloc (.cells #[.slice ua LL uc, .slice (some ⟨w3.heap.size, 0, none⟩) 1 1] 56)) from HS.out.alloc _)
        have hq2 : (w3.drew.alloc (.cells #[.int .i64 T, .int .i64 V] 38)).heap.size = w3.heap.size + 1 := by simp
        refine ⟨HS2.out, ?_⟩
        (try go_frame)
        obtain ⟨v3, X3, R3, hv3, k3⟩ := HCP.out ((w3.drew.alloc (.cells #[.int .i64 T, .int .i64 V] 38)).alloc (.cells #[.slice ua LL uc, .slice (some ⟨w3.heap.size, 0, none⟩) 1 1] 56)) HS2.out
        have K3 := hid (show Kept w3 X3 from HS2.out.trans k3 (fun _ _ f => f))
        refine wpAnyL_one (i := 7) (by kernel_rfl) rfl rfl (oper_appendH _ _ _ rfl rfl rfl R3 ?_)
        refine ⟨K3.out, ?_⟩
        go_frame
        have hP : NoP w3 (qs.take k) T V (.slice ua LL uc) v3 w3.heap.size (w3.heap.size + 1) X3 := ⟨hv3, K3.out, k3.blk ((Blk.new w3.drew [.int .i64 T, .int .i64 V] 38).alloc _) (fun f => f), by have := k3.blk (Blk.new (w3.drew.alloc (.cells #[.int .i64 T, .int .i64 V] 38)) [.slice ua LL uc, .slice (some ⟨w3.heap.size, 0, none⟩) 1 1] 56) (fun f => f); rw [hq2] at this; exact this, Nat.le_refl _⟩
        obtain ⟨v5, X5, v6, X6, R5, R6, k5, hD⟩ := HTL.out _ _ _ _ hP
        obtain ⟨f6, ⟨x6, c6⟩, hfin, hon⟩ := HFN.out _ _ _ hD
        have KX5 := hid k5
        have KX6 := hid hD.kept
        have HFIN := hid hfin
        have HON := hid hon
        clear hP k5 hD hfin hon
        refine wpAnyL_one (i := 14) (by kernel_rfl) rfl rfl (oper_appendH _ _ _ rfl rfl rfl R5 ?_)
        refine ⟨KX5.out, ?_⟩
        go_frame
        refine wpAnyL_one (i := 16) (by kernel_rfl) rfl rfl (oper_appendH _ _ _ rfl rfl rfl R6 ?_)
        refine ⟨KX6.out, ?_⟩
        go_frame
        refine wpAnyL_one (i := 17) (by kernel_rfl) rfl rfl ?_
        go_simp
        refine ⟨KX6.out, ?_⟩
        (try go_frame)
        refine wpAnyL_one (i := 18) (by kernel_rfl) rfl rfl ?_
        go_simp
        refine ⟨KX6.out, ?_⟩
        (try go_frame)
        obtain ⟨za, zc, hz6⟩ : ∃ a c, v6 = .slice a (qs.take k ++ [(⟨.slice ua LL uc, .slice (some ⟨w3.heap.size, 0, none⟩) 1 1, l, [(T, V)]⟩ : SV)] ++ qs.drop k).length c := ownN_slice HFIN.out.row
        generalize (qs.take k ++ [(⟨.slice ua LL uc, .slice (some ⟨w3.heap.size, 0, none⟩) 1 1, l, [(T, V)]⟩ : SV)] ++ qs.drop k).length = L6 at hz6
        subst hz6
        refine wpAnyL_last (by kernel_rfl) (by kernel_rfl) rfl rfl ?_
        go_simp
        refine NoPanic.normal ?_
        go_wp2_with fail
        go_ret
        refine .inr ⟨_, _, _, by rw [HR.out]; exact HF.out, rfl, HFIN.out, ?_, HON.out⟩
        rw [HSET.out, List.map_append, List.map_append, List.map_take, List.map_drop, List.append_assoc]
        rfl
end
end Go.Proofs.YtnbfbnhiikliaaaGreat.Hd

/-
  The document's own head: a batch of rows, and whether it may be.
-/
namespace Go.Proofs.YtnbfbnhiikliaaaGreat.Hd
open Go.RowKit Go.Proofs.Lys Go.Maps Go.Proofs.YtnbfbnhiikliaaaGreat.N
set_option linter.unusedVariables false
set_option linter.unusedSimpArgs false

section
variable {w : World} {Z : Nat → Prop} {B rb : Nat} {win : Int} {v : Value} {qs : List SV}
theorem rrow_any (h : RefAt w Z B rb win v qs) (hZ : ∀ j, Z j → j < w.heap.size) (hBw : B ≤ w.heap.size) (hok : ModOk (qs.map serV)) (hc : countM (qs.map serV) ≤ 50000) (hwin : 0 ≤ win ∧ win ≤ 9007199254740992) (lv : Value) (r : Row) (hl : LabSrc w lv r.1) (hls : r.1.length ≤ 100000) (hsm : Small r.1) :
    Calls Tryz.prog 39 #[.pointer (some ⟨rb, 0, none⟩), .agg #[lv, .int .i64 r.2.1, .int .i64 r.2.2], .int .i64 (-9007199254740992)] w (RowA w Z B rb win v (qs.map serV) r) := by
  cases hm : makeL r.1 with
  | none => exact rrow_none lv r hl hls hsm hm
  | some l =>
    by_cases ht : r.2.1 < -9007199254740992 ∨ 9007199254740992 < r.2.1
    · exact rrow_time lv r hl hls hsm l hm ht
    · cases hlk : lookM (qs.map serV) l with
      | some s => exact rrow_yes h hok hc hwin lv r hl hls hsm l hm (by omega) s hlk
      | none => exact rrow_no h hZ hBw hok lv r hl hls hsm l hm (by omega) hlk

/-- What Write leaves. -/
def RWriteA (w : World) (Z : Nat → Prop) (B rb : Nat) (win : Int) (M : Mod) (rs : List Row) (e : Ending) (w' : World) : Prop :=
  (∃ x, writeM win M rs = .error x ∧ e = .returned (.int .i64 x) ∧ x ≠ 0 ∧ Kept w w') ∨
  (∃ N v' qs' Z', writeM win M rs = .ok N ∧ e = .returned (.int .i64 0) ∧ RefAt w' Z' B rb win v' qs' ∧ qs'.map serV = N ∧ (∀ j, Z' j → Z j ∨ (w.heap.size ≤ j ∧ j < w'.heap.size)) ∧ (∀ j, v'.ownBlock = some j → w.heap.size ≤ j ∧ j < w'.heap.size) ∧ Only (fun j => j = rb) w w')

theorem rows_next {M N N' : Mod} {rs : List Row} {k : Nat} (hk : k < rs.length) (h : rowsM win M (rs.take k) = .ok N) (h2 : rowM win N rs[k] = .ok N') : rowsM win M (rs.take (k + 1)) = .ok N' := by
  rw [take_row hk, rowsM_app, h]
  simp only
  rw [rowsM, h2]
  rfl

set_option maxRecDepth 100000 in
set_option maxHeartbeats 3200000 in
theorem rwrite_any (h : RefAt w Z B rb win v qs) (hZ : ∀ j, Z j → j < w.heap.size) (hBw : B ≤ w.heap.size) (hok : ModOk (qs.map serV)) (hc : countM (qs.map serV) ≤ 20000) (hwin : 0 ≤ win ∧ win ≤ 9007199254740992) {Zr : Nat → Prop} (rv : Value) (rs : List Row) (hs : RowSrc w Zr rv rs) (hR : RowsOk rs) :
    Calls Tryz.prog 15 #[.pointer (some ⟨rb, 0, none⟩), rv, .int .i64 (-9007199254740992)] w (RWriteA w Z B rb win (qs.map serV) rs) := by
  obtain ⟨a1, c1, rfl⟩ := hs.len
  obtain ⟨L, hL⟩ : ∃ L, rs.length = L := ⟨_, rfl⟩
  have hLm := hR.1
  by_cases h0 : L = 0
  · have HR : Hid (writeM win (qs.map serV) rs = .error 1) := by
      show _ = _
      unfold writeM
      rw [if_pos (by omega)]
    rw [hL, h0]
    clear hs hR h hL hLm
    go_enter Tryz.func15, Tryz.ntmps15
    go_wp2
    go_ret
    exact .inl ⟨1, HR.out, rfl, by decide, Only.refl _ _⟩
  by_cases h2 : 200 < L
  · have HR : Hid (writeM win (qs.map serV) rs = .error 2) := by
      show _ = _
      unfold writeM
      rw [if_neg (by omega), if_pos (by omega)]
    have z0 : ((L : Int) == 0) = false := by simp; omega
    rw [hL] at hLm ⊢
    clear hs hR h hL
    go_enter Tryz.func15, Tryz.ntmps15
    go_wp2
    go_ret
    exact .inl ⟨2, HR.out, rfl, by decide, Only.refl _ _⟩
  have HR : Hid (writeM win (qs.map serV) rs = rowsM win (qs.map serV) rs) := by
    show _ = _
    unfold writeM
    rw [if_neg (by omega), if_neg (by omega)]
  have hq : qs.length ≤ 1000 := by have := hok.len; rw [List.length_map] at this; omega
  have HCP := hid (rcopied_any h (by omega) hZ)
  have z0 : ((L : Int) == 0) = false := by simp; omega
  have HS := hid hs
  have HL := hid hL
  have HOK := hid hok
  have HH := hid h
  have HC := hid hc
  have HRO := hid hR
  have HZ := hid hZ
  rw [hL] at HS ⊢
  clear hs hR h hL hLm hc hok hZ hq
  go_enter Tryz.func15, Tryz.ntmps15
  go_wp2_with fail
  refine HCP.out.mono ?_
  rintro e w1 ⟨nb, nv, rfl, hN, hnb, k1⟩
  have HN := hid hN
  have HK1 := hid k1
  clear hN k1 HCP
  go_wp2_with fail
  go_loopw [8, 9] (fun s _ wr => ∃ (k : Nat) (v1 : Value) (qs1 : List SV) (Z1 : Nat → Prop) (N1 : Mod), k ≤ L ∧ s = .int .i64 (k : Int) ∧ RefAt wr Z1 w.heap.size nb win v1 qs1 ∧ qs1.map serV = N1 ∧ rowsM win (qs.map serV) (rs.take k) = .ok N1 ∧ ModOk N1 ∧ countM N1 ≤ 20000 + k ∧ (∀ j, Z1 j → Z j ∨ (w.heap.size ≤ j ∧ j < wr.heap.size)) ∧ Kept w wr) (fun s _ _ => L - (intOf s).toNat)
  case atStart => exact ⟨0, nv, qs, Z, _, by omega, rfl, HN.out, rfl, rfl, HOK.out, HC.out, fun j hj => .inl hj, HK1.out⟩
  case round =>
    obtain ⟨k, v1, qs1, Z1, N1, hk, rfl, hr, hm, hrows, hok1, hcn, hZ1, kr⟩ := hrel
    have HRr := hid hr
    have HM1 := hid hm
    have HRW := hid hrows
    have HO1 := hid hok1
    have HC1 := hid hcn
    have HZ1 := hid hZ1
    have HK := hid kr
    by_cases hlt : k < L
    · have hkl : k < rs.length := by have := HL.out; omega
      obtain ⟨b, o, lv, rfl, y0, y1, y2, hlab⟩ : ∃ b o lv, a1 = some ⟨b, o, none⟩ ∧ wr.cell? ⟨b, o + k * 3, none⟩ = some lv ∧ wr.cell? ⟨b, o + k * 3 + 1, none⟩ = some (.int .i64 rs[k].2.1) ∧ wr.cell? ⟨b, o + k * 3 + 2, none⟩ = some (.int .i64 rs[k].2.2) ∧ LabSrc wr lv rs[k].1 := by
        rcases HS.out.stay kr with ⟨a, c, hv, h0⟩ | ⟨_, b, o, c, hv, _, hcl⟩
        · rw [h0] at hkl
          simp at hkl
        · simp only [Value.slice.injEq] at hv
          obtain ⟨lv, e1, e2, e3, e4, _⟩ := hcl k hkl
          exact ⟨b, o, lv, hv.1, e1, e2, e3, e4⟩
      obtain ⟨hr1, hr2⟩ := HRO.out.2 _ (List.getElem_mem hkl)
      have hsz := kr.size
      have HRow := hid (rrow_any hr (fun j hj => by rcases hZ1 j hj with h | h; have := HZ.out j h; omega; exact h.2) hsz (by rw [hm]; exact hok1) (by rw [hm]; omega) hwin lv rs[k] hlab hr1 hr2)
      have HNX := hid (fun N' (e : rowM win N1 rs[k] = .ok N') => rows_next hkl HRW.out e)
      have HER := hid (fun x (e : rowM win N1 rs[k] = .error x) => rows_err hkl HRW.out e)
      have HCN := hid (fun N' (e : rowM win N1 rs[k] = .ok N') => countM_row HO1.out e)
      rw [hm] at HRow
      obtain ⟨la, lc, rfl⟩ := hlab.len
      generalize rs[k] = rk at y0 y1 y2 HRow HNX HER HCN hr1 hr2
      obtain ⟨rl, T, V⟩ := rk
      simp only at y0 y1 y2 HRow
      generalize rl.length = RL at y0 HRow
      clear hr hm hrows hok1 hcn hZ1 kr hlab hr1 hr2
      go_wp2_with fail
      refine HRow.out.mono ?_
      rintro e w2 hA
      rcases hA with ⟨x, hx, rfl, hx0, k2⟩ | ⟨N', v', qs', hx, rfl, hr', hm', hon⟩
      · have HF : Hid (writeM win (qs.map serV) rs = .error x) := by
          show _ = _
          rw [HR.out]
          exact HER.out x hx
        have HK2 := hid (HK.out.trans k2 (fun _ _ f => f))
        have zx : (x != 0) = true := by simp [hx0]
        have HX0 := hid hx0
        clear k2 hx hx0
        go_wp2_with fail
        go_ret
        exact .inl ⟨x, HF.out, rfl, HX0.out, HK2.out⟩
      · have HK2 : Hid (Kept w w2) := hid (HK.out.trans hon (fun j hj e => by
          rcases e with e | e
          · omega
          · have := (ownN_lt HRr.out.row e).1
            omega))
        have hszs := hon.size
        have HRr2 := hid hr'
        have HM2 := hid hm'
        have HX := hid hx
        clear hon hr' hm' hx
        go_wp2_with fail
        go_roundw
        case rel =>
          refine ⟨k + 1, v', qs', _, N', by omega, by go_num, HRr2.out, HM2.out, HNX.out N' HX.out, HO1.out.row HX.out, by have := HCN.out N' HX.out; have := HC1.out; omega, fun j hj => ?_, HK2.out⟩
          rcases hj with hj | ⟨h1, h2, _⟩
          · rcases HZ1.out j hj with h | ⟨h3, h4⟩
            · exact .inl h
            · exact .inr ⟨h3, by omega⟩
          · exact .inr ⟨by omega, h2⟩
        case measure => simp [intOf]; omega
    · have HF : Hid (writeM win (qs.map serV) rs = .ok N1) := by
        show _ = _
        rw [HR.out]
        have := HRW.out
        rw [List.take_of_length_le (by have := HL.out; omega)] at this
        exact this
      have hn1 := hr.blk.cell 1 rfl
      have hR0 := HH.out.stay kr
      have hc0 := hR0.blk.cell 1 rfl
      have hf0 := hR0.blk.frozen 1
      obtain ⟨a9, c9, hv9⟩ := ownN_slice hr.row
      subst hv9
      obtain ⟨a8, c8, hv8⟩ := ownN_slice HH.out.row
      subst hv8
      have hrb : rb < w.heap.size := HH.out.blk.lt
      have hon : Only (fun j => j = rb) w (wr.setCell ⟨rb, 1, none⟩ (.slice a9 qs1.length c9)) := (kr.mono (O' := fun j => j = rb) (fun _ _ f => f.elim)).setCell (p := ⟨rb, 1, none⟩) (fun _ => rfl) _
      have honr : Only (fun j => j = rb) wr (wr.setCell ⟨rb, 1, none⟩ (.slice a9 qs1.length c9)) := (Only.refl (fun j => j = rb) wr).setCell (p := ⟨rb, 1, none⟩) (fun _ => rfl) _
      have hnz : ¬ Z1 rb := fun hz => by
        rcases hZ1 rb hz with h | ⟨h, _⟩
        · exact HH.out.ne.1 h
        · omega
      have HFN : Hid (RefAt (wr.setCell ⟨rb, 1, none⟩ (.slice a9 qs1.length c9)) Z1 B rb win (.slice a9 qs1.length c9) qs1) := hid ⟨hR0.blk.set 1 _, ownN_base (ownN_only hr.row honr (fun b hb e => by subst e; have := (ownN_lt hr.row hb).1; omega)) hBw, fun q hq => (hr.read q hq).only honr (fun j hj e => by subst e; exact hnz hj), ⟨hnz, hr.ne.2⟩⟩
      have HON := hid hon
      have HSZ := hid honr.size
      have HOW : Hid (∀ j, (Value.slice a9 qs1.length c9).ownBlock = some j → w.heap.size ≤ j ∧ j < wr.heap.size) := hid (fun j hj => ownN_lt hr.row hj)
      clear hr hm hrows hok1 hcn hZ1 kr hR0 hon honr hnz
      generalize qs1.length = Q1 at *
      generalize qs.length = Q0 at *
      go_wp2_with fail
      go_ret
      refine .inr ⟨N1, _, qs1, Z1, HF.out, rfl, HFN.out, HM1.out, fun j hj => ?_, fun j hj => ?_, HON.out⟩
      · rcases HZ1.out j hj with h | ⟨h1, h2⟩
        · exact .inl h
        · exact .inr ⟨h1, Nat.lt_of_lt_of_le h2 HSZ.out⟩
      · exact ⟨(HOW.out j hj).1, Nat.lt_of_lt_of_le (HOW.out j hj).2 HSZ.out⟩

set_option maxRecDepth 100000 in
theorem rmay_any (h : RefAt w Z B rb win v qs) (hZ : ∀ j, Z j → j < w.heap.size) (hok : ModOk (qs.map serV)) (hc : countM (qs.map serV) ≤ 20000) (hwin : 0 ≤ win ∧ win ≤ 9007199254740992) {Zr : Nat → Prop} (rv : Value) (rs : List Row) (hs : RowSrc w Zr rv rs) (hR : RowsOk rs) :
    Calls Tryz.prog 12 #[.pointer (some ⟨rb, 0, none⟩), rv] w fun e w' => e = .returned (.int .i64 (errM (writeM win (qs.map serV) rs))) ∧ Kept w w' := by
  have hq : qs.length ≤ 1000 := by have := hok.len; rw [List.length_map] at this; omega
  have HCP := hid (rcopied_any h (by omega) hZ)
  have HS := hid hs
  have HZ := hid hZ
  have HW := hid (fun (W : World) (kW : Kept w W) (nb : Nat) (nv : Value) (hN : RefAt W Z w.heap.size nb win nv qs) => rwrite_any hN (fun j hj => Nat.lt_of_lt_of_le (hZ j hj) kW.size) kW.size hok hc hwin rv rs (hs.stay kW) hR)
  clear hs h hok hq hZ
  go_enter Tryz.func12, Tryz.ntmps12
  go_wp2_with fail
  refine HCP.out.mono ?_
  rintro e w1 ⟨nb, nv, rfl, hN, hnb, k1⟩
  have HN := hid hN
  have HK1 := hid k1
  clear hN k1 HCP
  go_wp2_with fail
  refine (HW.out w1 HK1.out nb nv HN.out).mono ?_
  rintro e w2 hA
  rcases hA with ⟨x, hx, rfl, _, k2⟩ | ⟨N, v', qs', Z', hx, rfl, _, _, _, _, hon⟩
  · have HK2 := hid (HK1.out.trans k2 (fun _ _ f => f))
    have HX := hid hx
    clear k2 hx
    go_wp2_with fail
    go_ret
    exact ⟨by rw [HX.out]; rfl, HK2.out⟩
  · have HK2 : Hid (Kept w w2) := hid (HK1.out.trans hon (fun j hj e => by omega))
    have HX := hid hx
    clear hon hx
    go_wp2_with fail
    go_ret
    exact ⟨by rw [HX.out]; rfl, HK2.out⟩
end
end Go.Proofs.YtnbfbnhiikliaaaGreat.Hd

/-
  The document's own head: Cut.
-/
namespace Go.Proofs.YtnbfbnhiikliaaaGreat.Hd
open Go.RowKit Go.Proofs.Lys Go.Maps Go.Proofs.YtnbfbnhiikliaaaGreat.N
set_option linter.unusedVariables false
set_option linter.unusedSimpArgs false

theorem partM_next {f : Smps → Smps} {M : Mod} {i : Nat} (hi : i < M.length) : partM f (M.take (i + 1)) = partM f (M.take i) ++ (if 0 < (f M[i].2).length then [(M[i].1, f M[i].2)] else []) := by
  unfold partM
  rw [← List.take_append_getElem hi, List.map_append, List.filter_append]
  congr 1
  by_cases h : 0 < (f M[i].2).length
  · rw [if_pos h]
    simp [h]
  · rw [if_neg h]
    simp [h]
theorem cut_lt {low : Int} {s : Smps} (hs : RiseS s) {k : Nat} (hk : k < s.length) (h : s[k].1 < low) : k < placeS low s := by
  rcases Nat.lt_or_ge k (placeS low s) with h1 | h1
  · exact h1
  · exact absurd h (placeS_ge hs h1 hk)
theorem take_low {s : Smps} {k p : Nat} (hk : k < s.length) (h : k < p) : (s.take (k + 1)).take p = (s.take k).take p ++ [s[k]] ∧ (s.take (k + 1)).drop p = (s.take k).drop p := by
  refine ⟨?_, ?_⟩
  · rw [List.take_take, List.take_take, Nat.min_eq_right (by omega), Nat.min_eq_right (by omega), List.take_append_getElem hk]
  · rw [List.drop_of_length_le (by rw [List.length_take]; omega), List.drop_of_length_le (by rw [List.length_take]; omega)]
theorem take_high {s : Smps} {k p : Nat} (hk : k < s.length) (h : p ≤ k) : (s.take (k + 1)).take p = (s.take k).take p ∧ (s.take (k + 1)).drop p = (s.take k).drop p ++ [s[k]] := by
  refine ⟨?_, ?_⟩
  · rw [List.take_take, List.take_take, Nat.min_eq_left (by omega), Nat.min_eq_left (by omega)]
  · rw [← List.take_append_getElem hk, List.drop_append_of_le_length (by rw [List.length_take]; omega)]

/-- What is read in a cut: of old, or new and no row of series. -/
def Zt (w : World) (Z : Nat → Prop) (wr : World) (j : Nat) : Prop := Z j ∨ (w.heap.size ≤ j ∧ j < wr.heap.size ∧ ¬ Typed wr j 56)
theorem Zt.more {w wr W : World} {Z O : Nat → Prop} (k : Only O wr W) (hO : ∀ j, O j → j < wr.heap.size → Typed wr j 56) {j : Nat} (h : Zt w Z wr j) : Zt w Z W j := by
  rcases h with h | ⟨h1, h2, h3⟩
  · exact .inl h
  · refine .inr ⟨h1, Nat.lt_of_lt_of_le h2 k.size, fun ht => h3 ?_⟩
    have hb := k.block j h2 (fun ho => h3 (hO j ho h2))
    obtain ⟨cs, fz, e⟩ := ht
    exact ⟨cs, fz, by rw [← hb]; exact e⟩
structure CutI (w wr : World) (Z : Nat → Prop) (vg vs : Value) (gq sq : List SV) : Prop where
  gown : wr.ownsRow w.heap.size 56 2 vg gq.length (svL gq)
  sown : wr.ownsRow w.heap.size 56 2 vs sq.length (svL sq)
  dis : ∀ j, vg.ownBlock = some j → vs.ownBlock = some j → False
  gread : ∀ q ∈ gq, SvR wr (Zt w Z wr) q
  sread : ∀ q ∈ sq, SvR wr (Zt w Z wr) q
  kept : Kept w wr
theorem CutI.swap {w wr : World} {Z : Nat → Prop} {vg vs : Value} {gq sq : List SV} (h : CutI w wr Z vg vs gq sq) : CutI w wr Z vs vg sq gq := ⟨h.sown, h.gown, fun j a b => h.dis j b a, h.sread, h.gread, h.kept⟩
theorem CutI.stay {w wr W : World} {Z : Nat → Prop} {vg vs : Value} {gq sq : List SV} (h : CutI w wr Z vg vs gq sq) (k : Kept wr W) : CutI w W Z vg vs gq sq :=
  ⟨ownN_stay h.gown k, ownN_stay h.sown k, h.dis, fun q hq => ((h.gread q hq).stay k).weak (fun j hj => hj.more k (fun _ f => f.elim)), fun q hq => ((h.sread q hq).stay k).weak (fun j hj => hj.more k (fun _ f => f.elim)), h.kept.trans k (fun _ _ f => f)⟩
theorem SvR.row {w wr W : World} {Z : Nat → Prop} {v : Value} {n : Nat} {xs : List Value} {q : SV} (h : SvR wr (Zt w Z wr) q) (hZ : ∀ j, Z j → j < w.heap.size) (ho : wr.ownsRow w.heap.size 56 2 v n xs) (k : Only (fun j => v.ownBlock = some j) wr W) : SvR W (Zt w Z W) q :=
  (h.only k (fun j hj e => by
    rcases hj with hj | ⟨h1, h2, h3⟩
    · have := hZ j hj
      have := (ownN_lt ho e).1
      omega
    · exact h3 (ownN_typed ho e))).weak (fun j hj => hj.more k (fun i e _ => ownN_typed ho e))
theorem cut_app {w wr : World} {Z : Nat → Prop} {vg vs : Value} {gq sq : List SV} (h : CutI w wr Z vg vs gq sq) (hZ : ∀ j, Z j → j < w.heap.size) (q : SV) (hq : SvR wr (Zt w Z wr) q) (hl : gq.length ≤ 10000) :
    ∃ v' X', Hid ((Builtin.append_ #[47, 47] 0 #[vg, .slice (some ⟨wr.heap.size, 0, none⟩) 1 1]).run Tryz.prog (wr.alloc (.cells #[q.lv, q.sv] 56)) = .ok v' X') ∧ CutI w X' Z v' vs (gq ++ [q]) sq ∧ (∀ q2, SvR wr (Zt w Z wr) q2 → SvR X' (Zt w Z X') q2) ∧ ∃ a c, v' = .slice a (gq.length + 1) c := by
  have ka : Kept wr (wr.alloc (.cells #[q.lv, q.sv] 56)) := (Only.refl _ wr).alloc _
  have hA := h.stay ka
  have hq' := ((hq.stay ka).weak (fun j hj => hj.more ka (fun _ f => f.elim)))
  have hb := Blk.new wr [q.lv, q.sv] 56
  have hlit : SvCells (wr.alloc (.cells #[q.lv, q.sv] 56)) (.slice (some ⟨wr.heap.size, 0, none⟩) 1 1) [q] := .inr ⟨wr.heap.size, 0, 1, rfl, fun i hi => by
    have : i = 0 := by simpa using hi
    subst this
    exact ⟨hb.cell 0 rfl, hb.cell 1 rfl⟩⟩
  have hpq : SvPlain [q] := SvR.plain (w := wr) (Z := Zt w Z wr) (fun x hx => by
    have : x = q := by simpa using hx
    subst this
    exact hq)
  obtain ⟨v', X', hr, ho, hg, hat⟩ := sv_append hA.gown hlit hpq (by simp; omega) (by have := hA.kept.size; omega)
  have hon : Only (fun j => vg.ownBlock = some j) (wr.alloc (.cells #[q.lv, q.sv] 56)) X' := (Only.refl _ _).grown hg (fun j e _ => e)
  refine ⟨v', X', hr, ⟨ho, ownN_only hA.sown hon (fun b hb e => hA.dis b e hb), fun j e1 e2 => ?_, fun x hx => ?_, fun x hx => (hA.sread x hx).row hZ hA.gown hon, hA.kept.trans hon (fun j hj e => by have := (ownN_lt hA.gown e).1; omega)⟩, fun q2 h2 => ((h2.stay ka).weak (fun j hj => hj.more ka (fun _ f => f.elim))).row hZ hA.gown hon, by obtain ⟨a, c, e⟩ := ownN_slice ho; exact ⟨a, c, by rw [e]; simp⟩⟩
  · rcases hat with e | e
    · rw [e] at e1
      exact hA.dis j e1 e2
    · rw [e] at e1
      cases e1
      have := (ownN_lt hA.sown e2).2
      omega
  · rcases List.mem_append.1 hx with hx | hx
    · exact (hA.gread x hx).row hZ hA.gown hon
    · have e : x = q := by simpa using hx
      subst e
      exact hq'.row hZ hA.gown hon

/-- Two rows of samples side by side: one sample more of the first. -/
theorem smp_two {wi wr : World} {va vb : Value} {la lb : Smps} (ha : SmpAt wr wi.heap.size va la) (hb : SmpAt wr wi.heap.size vb lb) (hd : ∀ j, va.ownBlock = some j → vb.ownBlock = some j → False) (k : Kept wi wr) (p : Smp) (hl : la.length ≤ 100000) :
    ∃ g cap w', Hid ((Builtin.append_ #[54, 54] 0 #[va, .slice (some ⟨wr.heap.size, 0, none⟩) 1 1]).run Tryz.prog (wr.alloc (.cells #[.int .i64 p.1, .int .i64 p.2] 38)) = .ok (.slice (some ⟨g, 0, none⟩) (la.length + 1) cap) w') ∧ SmpAt w' wi.heap.size (.slice (some ⟨g, 0, none⟩) (la.length + 1) cap) (la ++ [p]) ∧ SmpAt w' wi.heap.size vb lb ∧ (∀ j, (Value.slice (some ⟨g, 0, none⟩) (la.length + 1) cap).ownBlock = some j → vb.ownBlock = some j → False) ∧ Kept wi w' := by
  have k1 : Kept wr (wr.alloc (.cells #[.int .i64 p.1, .int .i64 p.2] 38)) := (Only.refl _ wr).alloc _
  have ha1 := ownN_stay ha k1
  have hb1 := ownN_stay hb k1
  obtain ⟨v', w', hr, h1, h2, h3⟩ := smp_append ha1 (smp_lit wr p) (by simp; omega) (Nat.le_trans k.size k1.size)
  have hon : Only (fun j => va.ownBlock = some j) (wr.alloc (.cells #[.int .i64 p.1, .int .i64 p.2] 38)) w' := (Only.refl _ _).grown h2 (fun j e _ => e)
  obtain ⟨g, cap, rfl⟩ := ownN_some h1 (by simp)
  have e1 : (la ++ [p]).length = la.length + 1 := by simp
  rw [e1] at hr h1 h3
  refine ⟨g, cap, w', hr, ?_, ownN_only hb1 hon (fun b hb e => hd b e hb), fun j e1 e2 => ?_, (k.trans k1 (fun _ _ f => f)).trans hon (fun j hj e => by have := (ownN_lt ha e).1; omega)⟩
  · exact h1
  · rcases h3 with e | e
    · rw [e] at e1
      exact hd j e1 e2
    · rw [e] at e1
      cases e1
      have := (ownN_lt hb1 e2).2
      omega

theorem sv_src {w : World} {Z : Nat → Prop} {B : Nat} {v : Value} {qs : List SV} (hrow : w.ownsRow B 56 2 v qs.length (svL qs)) (hread : ∀ q ∈ qs, SvR w Z q) : SerSrc w v (qs.map serV) := by
  refine ⟨?_⟩
  by_cases h0 : qs.length = 0
  · have : qs = [] := List.length_eq_zero_iff.1 h0
    subst this
    obtain ⟨a, c, e⟩ := ownN_slice hrow
    exact .inl ⟨a, c, e, rfl⟩
  · obtain ⟨g, cap, e⟩ := ownN_some hrow (by omega)
    subst e
    refine .inr ⟨by rw [List.length_map]; omega, g, 0, cap, by rw [List.length_map], fun i hi => ?_⟩
    rw [List.length_map] at hi
    have hx := svL_at qs i hi
    have hq := hread _ (List.getElem_mem hi)
    rw [Nat.zero_add, List.getElem_map]
    exact ⟨_, _, by rw [hrow.cellAt (i * 2) (by omega)]; exact hx.1, by rw [hrow.cellAt (i * 2 + 1) (by omega)]; exact hx.2, hq.lab, hq.smp⟩
theorem part_in {f : Smps → Smps} {M : Mod} {x : Ser} (h : x ∈ partM f M) : ∃ y ∈ M, x = (y.1, f y.2) := by
  unfold partM at h
  obtain ⟨h1, _⟩ := List.mem_filter.1 h
  obtain ⟨y, hy, e⟩ := List.mem_map.1 h1
  exact ⟨y, hy, e.symm⟩

/-- What Cut leaves. -/
def RCutA (w : World) (Z : Nat → Prop) (B rb : Nat) (win : Int) (M : Mod) (low : Int) (e : Ending) (w' : World) : Prop :=
  ∃ u v' qs' Z', e = .returned u ∧ SerSrc w' u (partM (goneS low) M) ∧ RefAt w' Z' B rb win v' qs' ∧ qs'.map serV = partM (stayS low) M ∧ (∀ j, Z' j → Z j ∨ (w.heap.size ≤ j ∧ j < w'.heap.size)) ∧ (∀ j, v'.ownBlock = some j → w.heap.size ≤ j ∧ j < w'.heap.size) ∧ Only (fun j => j = rb) w w'

/-- What the cut knows behind i series. -/
structure CutK (w wr : World) (Z : Nat → Prop) (M : Mod) (low : Int) (i : Nat) (vg vs : Value) (gq sq : List SV) : Prop where
  at_ : CutI w wr Z vg vs gq sq
  gone : gq.map serV = partM (goneS low) (M.take i)
  stay : sq.map serV = partM (stayS low) (M.take i)
  gl : gq.length ≤ i
  sl : sq.length ≤ i

set_option maxRecDepth 100000 in
set_option maxHeartbeats 6400000 in
theorem rcut_any {w : World} {Z : Nat → Prop} {B rb : Nat} {win : Int} {v : Value} {qs : List SV} (h : RefAt w Z B rb win v qs) (hZ : ∀ j, Z j → j < w.heap.size) (hBw : B ≤ w.heap.size) (hok : ModOk (qs.map serV)) (hc : countM (qs.map serV) ≤ 20000) (low : Int) :
    Calls Tryz.prog 21 #[.pointer (some ⟨rb, 0, none⟩), .int .i64 low] w (RCutA w Z B rb win (qs.map serV) low) := by
  have hq : qs.length ≤ 1000 := by have := hok.len; rw [List.length_map] at this; omega
  obtain ⟨ra, rc, hv⟩ := ownN_slice h.row
  subst hv
  have HH := hid h
  have HZ := hid hZ
  have HOK := hid hok
  have HC := hid hc
  have HCP := hid (fun (W : World) (u : Value) (xs : Mod) (hs : SerSrc W u xs) (h1 : xs.length ≤ 100000) (h2 : ∀ x ∈ xs, x.1.length ≤ 1000 ∧ x.2.length ≤ 100000) => rcopy_any W u xs hs h1 h2)
  obtain ⟨NQ, hNQ⟩ : ∃ NQ, qs.length = NQ := ⟨_, rfl⟩
  have HNQ := hid hNQ
  rw [hNQ] at hq
  clear h hZ hok hc hNQ
  go_enter Tryz.func21, Tryz.ntmps21
  go_wp2_with fail
  go_loopw [5, 6, 7, 8, 9, 10, 11] (fun p q s _ _ _ _ wr => ∃ (i : Nat) (gq sq : List SV), i ≤ NQ ∧ s = .int .i64 (i : Int) ∧ CutK w wr Z (qs.map serV) low i p q gq sq) (fun _ _ s _ _ _ _ _ => NQ - (intOf s).toNat)
  case atStart => exact ⟨0, [], [], by omega, rfl, ⟨⟨World.ownsRow_nil _ _ _ _, World.ownsRow_nil _ _ _ _, (fun j e => by cases e), (fun q hq => by cases hq), (fun q hq => by cases hq), Only.refl _ _⟩, rfl, rfl, Nat.le_refl _, Nat.le_refl _⟩⟩
  case round =>
    obtain ⟨i, gq, sq, hi, rfl, hK⟩ := hrel
    have HK := hid hK
    have hR := HH.out.stay hK.at_.kept
    have b2 := hR.blk.cell 1 rfl
    rw [HNQ.out] at b2
    by_cases hlt : i < NQ
    · have hil : i < qs.length := by have := HNQ.out; omega
      have hx := svL_at qs i hil
      obtain ⟨g, cap, hg⟩ := ownN_some HH.out.row (by have := HNQ.out; omega)
      cases hg
      have c1 : wr.cell? ⟨g, i * 2, none⟩ = some (qs[i]'hil).lv := by
        rw [World.ownsRow.cellAt hR.row (i * 2) (by omega)]
        exact hx.1
      have c1w : w.cell? ⟨g, i * 2, none⟩ = some (qs[i]'hil).lv := by
        rw [World.ownsRow.cellAt HH.out.row (i * 2) (by omega)]
        exact hx.1
      have c2 : wr.cell? ⟨g, i * 2 + 1, none⟩ = some (qs[i]'hil).sv := by
        rw [World.ownsRow.cellAt hR.row (i * 2 + 1) (by omega)]
        exact hx.2
      have hrd := HH.out.read _ (List.getElem_mem hil)
      have HRD := hid hrd
      have hme : serV (qs[i]'hil) ∈ qs.map serV := List.mem_map_of_mem (List.getElem_mem hil)
      have hrise := HOK.out.rise _ hme
      have hcm := countM_mem hme
      have hlen : (qs[i]'hil).smps.length ≤ 20000 := by have := HC.out; have h2 : (serV (qs[i]'hil)).2.length = (qs[i]'hil).smps.length := rfl; omega
      have HNX := hid (fun f => partM_next (f := f) (M := qs.map serV) (i := i) (by rw [List.length_map]; exact hil))
      simp only [List.getElem_map, serV] at HNX
      generalize qs[i]'hil = x at c1 c1w c2 hrd HRD hrise hlen HNX
      obtain ⟨lv, sv, labs, s⟩ := x
      simp only [serV] at c1 c1w c2 hrise hlen HNX
      obtain ⟨sa, sc, hsv, _⟩ := hrd.cap
      simp only at hsv
      obtain ⟨la, lc, hlv⟩ := hrd.lab.len
      simp only at hlv
      subst hsv hlv
      obtain ⟨NS, hNS⟩ : ∃ NS, s.length = NS := ⟨_, rfl⟩
      have HNS := hid hNS
      have HRise := hid hrise
      rw [hNS] at c2 hlen HRD
      obtain ⟨p, hp⟩ : ∃ p, placeS low s = p := ⟨_, rfl⟩
      have HP := hid hp
      have HPle : Hid (p ≤ NS) := by
        have := placeS_le low s
        exact hid (by omega)
      clear hR hx hrd hme hcm hK hrise hp hNS hil
      have BK : Hid (∀ W, Kept w W → W.cell? ⟨rb, 1, none⟩ = some (.slice (some ⟨g, 0, none⟩) NQ rc) ∧ W.cell? ⟨g, i * 2, none⟩ = some (.slice la labs.length lc)) := hid (fun W kW => ⟨only_cell kW (fun f => f) (by have := HH.out.blk.cell 1 rfl; rw [HNQ.out] at this; exact this), only_cell kW (fun f => f) c1w⟩)
      clear c1w
      generalize labs.length = NL at c1 HRD BK
      go_wp2_with fail
      obtain ⟨wo, hwo⟩ : ∃ wo, wo = wr := ⟨_, rfl⟩
      subst hwo
      go_loopw [8, 9, 11] (fun a b t wt => ∃ (k : Nat), k ≤ NS ∧ t = .int .i64 (k : Int) ∧ SmpAt wt wo.heap.size a ((s.take k).take p) ∧ SmpAt wt wo.heap.size b ((s.take k).drop p) ∧ (∀ j, a.ownBlock = some j → b.ownBlock = some j → False) ∧ Kept wo wt) (fun _ _ t _ => NS - (intOf t).toNat)
      case atStart => exact ⟨0, by omega, rfl, by rw [List.take_zero, List.take_nil]; exact World.ownsRow_nil _ _ _ _, by rw [List.take_zero, List.drop_nil]; exact World.ownsRow_nil _ _ _ _, fun j e => (by cases e), Only.refl _ _⟩
      case round =>
        obtain ⟨k, hk, rfl, ha, hb, hd, kt⟩ := hrel
        have HA := hid ha
        have HB := hid hb
        have HD := hid hd
        have HT := hid kt
        have HLA : Hid (((s.take k).take p).length ≤ 20000 ∧ ((s.take k).drop p).length ≤ 20000) := hid (by
          rw [List.length_take, List.length_drop, List.length_take]
          have := HNS.out
          omega)
        by_cases hlk : k < NS
        · have hks : k < s.length := by have := HNS.out; omega
          obtain ⟨sb, so, rfl, z1, z2⟩ := SmpSrc.cell (HRD.out.smp.stay (HK.out.at_.kept.trans kt (fun _ _ f => f))) HNS.out k hlk
          by_cases hT : (s[k]'hks).1 < low
          · have hkp : k < p := by rw [← HP.out]; exact cut_lt HRise.out hks hT
            obtain ⟨e1, e2⟩ := take_low hks hkp
            obtain ⟨g1, cap1, w2, R2, ha2, hb2, hd2, kt2⟩ := smp_two ha hb hd kt (s[k]'hks) (by have := HLA.out; omega)
            rw [← e1] at ha2
            rw [← e2] at hb2
            have HA2 := hid ha2
            have HB2 := hid hb2
            have HD2 := hid hd2
            have HT2 := hid kt2
            obtain ⟨a3, c3, e3⟩ := ownN_slice ha
            obtain ⟨a4, c4, e4⟩ := ownN_slice hb
            subst e3 e4
            generalize ((s.take k).take p).length = N3 at *
            generalize ((s.take k).drop p).length = N4 at *
            generalize s[k]'hks = y at z1 z2 hT R2
            obtain ⟨yT, yV⟩ := y
            simp only at z1 z2 hT R2
            have dT : decide (yT < low) = true := decide_eq_true hT
            clear ha hb hd kt ha2 hb2 hd2 kt2 e1 e2 hks hT
            go_wp2_with (at_builtin; refine wpList_append_run rfl _ _ _ rfl rfl rfl R2 ?_)
            go_roundw
            case rel => exact ⟨k + 1, by omega, by go_num, HA2.out, HB2.out, HD2.out, HT2.out⟩
            case measure => simp [intOf]; omega
          · have hkp : p ≤ k := by
              rcases Nat.lt_or_ge k p with h | h
              · exact absurd (placeS_lt (by rw [HP.out]; exact h) hks) hT
              · exact h
            obtain ⟨e1, e2⟩ := take_high hks hkp
            obtain ⟨g1, cap1, w2, R2, hb2, ha2, hd2, kt2⟩ := smp_two hb ha (fun j a b => hd j b a) kt (s[k]'hks) (by have := HLA.out; omega)
            rw [← e1] at ha2
            rw [← e2] at hb2
            have HA2 := hid ha2
            have HB2 := hid hb2
            have HD2 := hid hd2
            have HT2 := hid kt2
            obtain ⟨a3, c3, e3⟩ := ownN_slice ha
            obtain ⟨a4, c4, e4⟩ := ownN_slice hb
            subst e3 e4
            generalize ((s.take k).take p).length = N3 at *
            generalize ((s.take k).drop p).length = N4 at *
            generalize s[k]'hks = y at z1 z2 hT R2
            obtain ⟨yT, yV⟩ := y
            simp only at z1 z2 hT R2
            have dT : decide (yT < low) = false := decide_eq_false hT
            clear ha hb hd kt ha2 hb2 hd2 kt2 e1 e2 hks hT
            go_wp2_with (at_builtin; refine wpList_append_run rfl _ _ _ rfl rfl rfl R2 ?_)
            go_roundw
            case rel => exact ⟨k + 1, by omega, by go_num, HA2.out, HB2.out, fun j a b => HD2.out j b a, HT2.out⟩
            case measure => simp [intOf]; omega
        · have eA : (s.take k).take p = goneS low s := by
            rw [List.take_of_length_le (l := s) (by have := HNS.out; omega)]
            unfold goneS
            rw [HP.out]
          have eB : (s.take k).drop p = stayS low s := by
            rw [List.take_of_length_le (l := s) (by have := HNS.out; omega)]
            unfold stayS
            rw [HP.out]
          rw [eA] at ha HLA
          rw [eB] at hb HLA
          have HLA2 := hid HLA.out
          have hCI := HK.out.at_.stay kt
          have hsz := kt.size
          have hrk := HK.out.at_.kept.size
          have hkw := HK.out.at_.kept.trans kt (fun _ _ f => f)
          obtain ⟨a3, c3, e3⟩ := ownN_slice ha
          obtain ⟨a4, c4, e4⟩ := ownN_slice hb
          subst e3 e4
          have hqa : SvR wr (Zt w Z wr) ⟨.slice la NL lc, .slice a3 (goneS low s).length c3, labs, goneS low s⟩ := ⟨HRD.out.lab.stay hkw, SmpAt.src ha, fun a n c e hn => .inl (HRD.out.zl a n c e hn), own_inZ ha (fun j hj => .inr ⟨by have := (ownN_lt ha hj).1; omega, (ownN_lt ha hj).2, fun ht => (ownN_typed ha hj).ne ht (by decide) rfl⟩), smpAt_cap ha⟩
          have hqb : SvR wr (Zt w Z wr) ⟨.slice la NL lc, .slice a4 (stayS low s).length c4, labs, stayS low s⟩ := ⟨HRD.out.lab.stay hkw, SmpAt.src hb, fun a n c e hn => .inl (HRD.out.zl a n c e hn), own_inZ hb (fun j hj => .inr ⟨by have := (ownN_lt hb hj).1; omega, (ownN_lt hb hj).2, fun ht => (ownN_typed hb hj).ne ht (by decide) rfl⟩), smpAt_cap hb⟩
          obtain ⟨N3, N3e⟩ : ∃ N, (goneS low s).length = N := ⟨_, rfl⟩
          obtain ⟨N4, N4e⟩ : ∃ N, (stayS low s).length = N := ⟨_, rfl⟩
          rw [N3e] at hqa HLA2 ⊢
          rw [N4e] at hqb HLA2 ⊢
          clear ha hb hd kt HA HB HD HT HLA eA eB hsz hrk hkw
          by_cases hA0 : 0 < N3
          · by_cases hB0 : 0 < N4
            · obtain ⟨vg', X1, R1, hC1, hmv, ag, cg, hvg⟩ := cut_app hCI HZ.out ⟨.slice la NL lc, .slice a3 N3 c3, labs, goneS low s⟩ hqa (by have := HK.out.gl; omega)
              have k1 := hC1.kept
              obtain ⟨vs', X2, R2, hC2, _, as_, cs_, hvs⟩ := cut_app hC1.swap HZ.out ⟨.slice la NL lc, .slice a4 N4 c4, labs, stayS low s⟩ (hmv _ hqb) (by have := HK.out.sl; omega)
              have HFI := hid hC2.swap
              obtain ⟨t1, t2⟩ := BK.out X1 k1
              obtain ⟨t3, t4⟩ := BK.out wr hCI.kept
              have EG : Hid ((gq ++ [(⟨.slice la NL lc, .slice a3 N3 c3, labs, goneS low s⟩ : SV)]).map serV = partM (goneS low) ((qs.map serV).take (i + 1))) := hid (by rw [HNX.out, if_pos (by rw [N3e]; exact hA0), List.map_append, HK.out.gone]; rfl)
              have ES : Hid ((sq ++ [(⟨.slice la NL lc, .slice a4 N4 c4, labs, stayS low s⟩ : SV)]).map serV = partM (stayS low) ((qs.map serV).take (i + 1))) := hid (by rw [HNX.out, if_pos (by rw [N4e]; exact hB0), List.map_append, HK.out.stay]; rfl)
              have GL := hid HK.out.gl
              have SL := hid HK.out.sl
              have n3 : N3 ≤ 20000 := by have := HLA2.out.1; omega
              have n4 : N4 ≤ 20000 := by have := HLA2.out.2; omega
              subst hvg hvs
              clear hC1 hCI hqa hqb hmv k1 N3e N4e hC2
              go_wp2_with (first | (at_builtin; refine wpList_append_run rfl _ _ _ rfl rfl rfl R1 ?_) | (at_builtin; refine wpList_append_run rfl _ _ _ rfl rfl rfl R2 ?_))
              go_roundw
              case rel => exact ⟨i + 1, gq ++ [⟨.slice la NL lc, .slice a3 N3 c3, labs, goneS low s⟩], sq ++ [⟨.slice la NL lc, .slice a4 N4 c4, labs, stayS low s⟩], by omega, by go_num, ⟨HFI.out, EG.out, ES.out, by have := GL.out; simp; try omega, by have := SL.out; simp; try omega⟩⟩
              case measure => simp [intOf]; omega
            · obtain ⟨vg', X1, R1, hC1, hmv, ag, cg, hvg⟩ := cut_app hCI HZ.out ⟨.slice la NL lc, .slice a3 N3 c3, labs, goneS low s⟩ hqa (by have := HK.out.gl; omega)
              have k1 := hC1.kept
              have HFI := hid hC1
              obtain ⟨t1, t2⟩ := BK.out X1 k1
              obtain ⟨t3, t4⟩ := BK.out wr hCI.kept
              have EG : Hid ((gq ++ [(⟨.slice la NL lc, .slice a3 N3 c3, labs, goneS low s⟩ : SV)]).map serV = partM (goneS low) ((qs.map serV).take (i + 1))) := hid (by rw [HNX.out, if_pos (by rw [N3e]; exact hA0), List.map_append, HK.out.gone]; rfl)
              have ES : Hid ((sq).map serV = partM (stayS low) ((qs.map serV).take (i + 1))) := hid (by rw [HNX.out, if_neg (by rw [N4e]; exact hB0), List.append_nil, HK.out.stay])
              have GL := hid HK.out.gl
              have SL := hid HK.out.sl
              have n3 : N3 ≤ 20000 := by have := HLA2.out.1; omega
              have n4 : N4 ≤ 20000 := by have := HLA2.out.2; omega
              subst hvg
              clear hC1 hCI hqa hqb hmv k1 N3e N4e
              go_wp2_with (at_builtin; refine wpList_append_run rfl _ _ _ rfl rfl rfl R1 ?_)
              go_roundw
              case rel => exact ⟨i + 1, gq ++ [⟨.slice la NL lc, .slice a3 N3 c3, labs, goneS low s⟩], sq, by omega, by go_num, ⟨HFI.out, EG.out, ES.out, by have := GL.out; simp; try omega, by have := SL.out; simp; try omega⟩⟩
              case measure => simp [intOf]; omega
          · by_cases hB0 : 0 < N4
            · have hC1 := hCI
              have hmv : ∀ q2, SvR wr (Zt w Z wr) q2 → SvR wr (Zt w Z wr) q2 := fun _ h => h
              have k1 := hC1.kept
              obtain ⟨vs', X2, R2, hC2, _, as_, cs_, hvs⟩ := cut_app hC1.swap HZ.out ⟨.slice la NL lc, .slice a4 N4 c4, labs, stayS low s⟩ (hmv _ hqb) (by have := HK.out.sl; omega)
              have HFI := hid hC2.swap
              obtain ⟨t1, t2⟩ := BK.out wr k1
              obtain ⟨t3, t4⟩ := BK.out wr hCI.kept
              have EG : Hid ((gq).map serV = partM (goneS low) ((qs.map serV).take (i + 1))) := hid (by rw [HNX.out, if_neg (by rw [N3e]; exact hA0), List.append_nil, HK.out.gone])
              have ES : Hid ((sq ++ [(⟨.slice la NL lc, .slice a4 N4 c4, labs, stayS low s⟩ : SV)]).map serV = partM (stayS low) ((qs.map serV).take (i + 1))) := hid (by rw [HNX.out, if_pos (by rw [N4e]; exact hB0), List.map_append, HK.out.stay]; rfl)
              have GL := hid HK.out.gl
              have SL := hid HK.out.sl
              have n3 : N3 ≤ 20000 := by have := HLA2.out.1; omega
              have n4 : N4 ≤ 20000 := by have := HLA2.out.2; omega
              subst hvs
              clear hC1 hCI hqa hqb hmv k1 N3e N4e hC2
              go_wp2_with (at_builtin; refine wpList_append_run rfl _ _ _ rfl rfl rfl R2 ?_)
              go_roundw
              case rel => exact ⟨i + 1, gq, sq ++ [⟨.slice la NL lc, .slice a4 N4 c4, labs, stayS low s⟩], by omega, by go_num, ⟨HFI.out, EG.out, ES.out, by have := GL.out; simp; try omega, by have := SL.out; simp; try omega⟩⟩
              case measure => simp [intOf]; omega
            · have hC1 := hCI
              have hmv : ∀ q2, SvR wr (Zt w Z wr) q2 → SvR wr (Zt w Z wr) q2 := fun _ h => h
              have k1 := hC1.kept
              have HFI := hid hC1
              obtain ⟨t1, t2⟩ := BK.out wr k1
              obtain ⟨t3, t4⟩ := BK.out wr hCI.kept
              have EG : Hid ((gq).map serV = partM (goneS low) ((qs.map serV).take (i + 1))) := hid (by rw [HNX.out, if_neg (by rw [N3e]; exact hA0), List.append_nil, HK.out.gone])
              have ES : Hid ((sq).map serV = partM (stayS low) ((qs.map serV).take (i + 1))) := hid (by rw [HNX.out, if_neg (by rw [N4e]; exact hB0), List.append_nil, HK.out.stay])
              have GL := hid HK.out.gl
              have SL := hid HK.out.sl
              have n3 : N3 ≤ 20000 := by have := HLA2.out.1; omega
              have n4 : N4 ≤ 20000 := by have := HLA2.out.2; omega
              clear hC1 hCI hqa hqb hmv k1 N3e N4e
              go_wp2_with fail
              go_roundw
              case rel => exact ⟨i + 1, gq, sq, by omega, by go_num, ⟨HFI.out, EG.out, ES.out, by have := GL.out; simp; try omega, by have := SL.out; simp; try omega⟩⟩
              case measure => simp [intOf]; omega
    · have hMN : (qs.map serV).take i = qs.map serV := List.take_of_length_le (by rw [List.length_map]; have := HNQ.out; omega)
      have hg := hK.gone
      have hs := hK.stay
      rw [hMN] at hg hs
      obtain ⟨a9, c9, e9⟩ := ownN_slice hK.at_.gown
      obtain ⟨a8, c8, e8⟩ := ownN_slice hK.at_.sown
      subst e9 e8
      have hrb : rb < w.heap.size := HH.out.blk.lt
      have hf := hR.blk.frozen 1
      have honr : Only (fun j => j = rb) wr (wr.setCell ⟨rb, 1, none⟩ (.slice a8 sq.length c8)) := (Only.refl (fun j => j = rb) wr).setCell (p := ⟨rb, 1, none⟩) (fun _ => rfl) _
      have hon : Only (fun j => j = rb) w (wr.setCell ⟨rb, 1, none⟩ (.slice a8 sq.length c8)) := (hK.at_.kept.mono (O' := fun j => j = rb) (fun _ _ f => f.elim)).setCell (p := ⟨rb, 1, none⟩) (fun _ => rfl) _
      have hnz : ¬ Zt w Z wr rb := fun hz => by
        rcases hz with h | ⟨h, _⟩
        · exact HH.out.ne.1 h
        · omega
      have hnz2 : ∀ j, Zt w Z wr j → ¬ (j = rb) := fun j hj e => by subst e; exact hnz hj
      have hsrc : SerSrc (wr.setCell ⟨rb, 1, none⟩ (.slice a8 sq.length c8)) (.slice a9 gq.length c9) (gq.map serV) := sv_src (ownN_only hK.at_.gown honr (fun b hb e => by subst e; have := (ownN_lt hK.at_.gown hb).1; omega)) (fun q hq => (hK.at_.gread q hq).only honr hnz2)
      have HFN : Hid (RefAt (wr.setCell ⟨rb, 1, none⟩ (.slice a8 sq.length c8)) (Zt w Z wr) B rb win (.slice a8 sq.length c8) sq) := hid ⟨hR.blk.set 1 _, ownN_base (ownN_only hK.at_.sown honr (fun b hb e => by subst e; have := (ownN_lt hK.at_.sown hb).1; omega)) hBw, fun q hq => (hK.at_.sread q hq).only honr hnz2, ⟨hnz, fun j hj hz => by
        rcases hz with h | ⟨_, _, h⟩
        · have := HZ.out j h
          have := (ownN_lt hK.at_.sown hj).1
          omega
        · exact h (ownN_typed hK.at_.sown hj)⟩⟩
      have HOW : Hid (∀ j, (Value.slice a8 sq.length c8).ownBlock = some j → w.heap.size ≤ j ∧ j < wr.heap.size) := hid (fun j hj => ownN_lt hK.at_.sown hj)
      have HSZ := hid honr.size
      have HON := hid hon
      rw [hg] at hsrc
      have HCC := hid (HCP.out _ _ _ hsrc (by rw [← hg, List.length_map]; have := hK.gl; omega) (fun x hx => by
        obtain ⟨y, hy, rfl⟩ := part_in hx
        have h1 := (HOK.out.made y hy).len16
        have h2 := countM_mem hy
        have h3 := HC.out
        refine ⟨by simp only; omega, ?_⟩
        simp only [goneS, List.length_take]
        omega))
      have HS2 := hid hs
      clear hK hR hg hs hsrc hon honr hnz hnz2 HCP
      generalize sq.length = QS at *
      generalize gq.length = QG at *
      go_wp2_with fail
      refine HCC.out.mono ?_
      rintro e w4 ⟨u, rfl, hu, k4⟩
      have HU := hid hu
      have HFN4 := hid (HFN.out.stay k4)
      have HON4 := hid (HON.out.trans k4 (fun _ _ f => f.elim))
      have HS4 := hid (Nat.le_trans HSZ.out k4.size)
      clear hu k4
      go_wp2_with fail
      go_ret
      refine ⟨u, _, sq, _, rfl, HU.out, HFN4.out, HS2.out, fun j hj => ?_, fun j hj => ?_, HON4.out⟩
      · rcases hj with h | ⟨h1, h2, _⟩
        · exact .inl h
        · exact .inr ⟨h1, Nat.lt_of_lt_of_le h2 HS4.out⟩
      · exact ⟨(HOW.out j hj).1, Nat.lt_of_lt_of_le (HOW.out j hj).2 HS4.out⟩
end Go.Proofs.YtnbfbnhiikliaaaGreat.Hd

/-
  The law's own Wipe: what was told is written over.
-/
namespace Go.Proofs.YtnbfbnhiikliaaaGreat.Hd
open Go.RowKit Go.Proofs.Lys Go.Maps Go.Proofs.YtnbfbnhiikliaaaGreat.N
set_option linter.unusedVariables false
set_option linter.unusedSimpArgs false

/-- The blocks of a row of series. -/
def SerO (v : Value) (qs : List SV) (j : Nat) : Prop := v.ownBlock = some j ∨ ∃ q ∈ qs, q.has j
theorem two_cells {w : World} {B g n cap k : Nat} {e : TypeId} {xs : List Value} (h : w.ownsRow B e 2 (.slice (some ⟨g, 0, none⟩) n cap) n xs) (hk : k < n) (p q : Value) :
    (∃ x, w.cell? ⟨g, k * 2, none⟩ = some x) ∧ w.frozen? ⟨g, k * 2, none⟩ = false ∧ (∃ x, (w.setCell ⟨g, k * 2, none⟩ p).cell? ⟨g, k * 2 + 1, none⟩ = some x) ∧ (w.setCell ⟨g, k * 2, none⟩ p).frozen? ⟨g, k * 2 + 1, none⟩ = false ∧
    ((w.setCell ⟨g, k * 2, none⟩ p).setCell ⟨g, k * 2 + 1, none⟩ q).ownsRow B e 2 (.slice (some ⟨g, 0, none⟩) n cap) n ((xs.set (k * 2) p).set (k * 2 + 1) q) := by
  have hl : xs.length = n * 2 := h.1
  have h1 := (h.stored (k * 2) p).1
  refine ⟨⟨xs[k * 2]'(by omega), ?_⟩, h.frozenAt _, ⟨(xs.set (k * 2) p)[k * 2 + 1]'(by rw [List.length_set]; omega), ?_⟩, h1.frozenAt _, (h1.stored (k * 2 + 1) q).1⟩
  · rw [h.cellAt (k * 2) (by omega)]
    exact List.getElem?_eq_getElem _
  · rw [h1.cellAt (k * 2 + 1) (by omega)]
    exact List.getElem?_eq_getElem _
theorem only_two {w w1 : World} {g a b : Nat} {p q : Value} {O : Nat → Prop} (h : Only O w w1) (hO : g < w.heap.size → O g) : Only O w ((w1.setCell ⟨g, a, none⟩ p).setCell ⟨g, b, none⟩ q) := (h.setCell (p := ⟨g, a, none⟩) hO _).setCell (p := ⟨g, b, none⟩) hO _

/-- What the wiping knows behind i series. -/
structure WipI (w wr : World) (B g cap n : Nat) (qs : List SV) (i : Nat) (xs : List Value) : Prop where
  row : wr.ownsRow B 56 2 (.slice (some ⟨g, 0, none⟩) n cap) n xs
  rest : ∀ j, i * 2 ≤ j → xs[j]? = (svL qs)[j]?
  lab : ∀ q ∈ qs.drop i, LabAt wr B q.lv q.labs
  smp : ∀ q ∈ qs.drop i, SmpAt wr B q.sv q.smps
  only : Only (SerO (.slice (some ⟨g, 0, none⟩) n cap) qs) w wr

set_option maxRecDepth 100000 in
set_option maxHeartbeats 6400000 in
theorem wipe_any {w : World} {B : Nat} {v : Value} {qs : List SV} (h : SerAt w B v qs) (hn : qs.length ≤ 1000) (hs : ∀ q ∈ qs, q.labs.length ≤ 1000 ∧ q.smps.length ≤ 100000) :
    Calls Tryz.prog 22 #[v] w fun e w' => e = .returned (.tuple #[]) ∧ Only (SerO v qs) w w' := by
  by_cases h0 : qs.length = 0
  · obtain ⟨a, c, rfl⟩ := ownN_slice h.row
    rw [h0]
    clear h hs hn
    go_enter Tryz.func22, Tryz.ntmps22
    go_wp2
    refine wp_loop_rounds 1 ?_
    rw [rounds_succ]
    go_wp2
    go_returns
    exact ⟨rfl, Only.refl _ _⟩
  obtain ⟨g, cap, rfl⟩ := ownN_some h.row (by omega)
  obtain ⟨n, hN⟩ : ∃ n, qs.length = n := ⟨_, rfl⟩
  have H0 : Hid (WipI w w B g cap n qs 0 (svL qs)) := hid ⟨by have := h.row; rw [hN] at this; exact this, fun _ _ => rfl, fun q hq => h.lab q (List.mem_of_mem_drop hq), fun q hq => h.smp q (List.mem_of_mem_drop hq), Only.refl _ _⟩
  have HN := hid hN
  have HSz := hid hs
  have HAP := hid h.apart
  rw [hN] at hn ⊢
  clear h hs hN h0
  go_enter Tryz.func22, Tryz.ntmps22
  go_wp2_with fail
  go_loopw [2, 3, 4] (fun s _ _ wt => ∃ (i : Nat) (xs : List Value), i ≤ n ∧ s = .int .i64 (i : Int) ∧ WipI w wt B g cap n qs i xs) (fun s _ _ _ => n - (intOf s).toNat)
  case atStart => exact ⟨0, _, by omega, rfl, H0.out⟩
  case round =>
    obtain ⟨i, xs, hi, rfl, hW⟩ := hrel
    have HW := hid hW
    by_cases hlt : i < n
    · have hil : i < qs.length := by have := HN.out; omega
      have hmem : qs[i] ∈ qs.drop i := by rw [List.drop_eq_getElem_cons hil]; exact List.mem_cons_self ..
      have hx := svL_at qs i hil
      have c1 : wr.cell? ⟨g, i * 2, none⟩ = some (qs[i]'hil).lv := by
        rw [hW.row.cellAt (i * 2) (by omega), hW.rest _ (Nat.le_refl _)]
        exact hx.1
      have c2 : wr.cell? ⟨g, i * 2 + 1, none⟩ = some (qs[i]'hil).sv := by
        rw [hW.row.cellAt (i * 2 + 1) (by omega), hW.rest _ (by omega)]
        exact hx.2
      have hlab := hW.lab _ hmem
      have hsmp := hW.smp _ hmem
      obtain ⟨hsl, hss⟩ := HSz.out _ (List.getElem_mem hil)
      have HAPi : Hid (∀ q ∈ qs.drop (i + 1), ∀ k, (qs[i]'hil).has k → ¬ q.has k) := hid (fun q hq k h1 h2 => by
        obtain ⟨j, hj, e⟩ := List.getElem_of_mem hq
        rw [List.getElem_drop] at e
        have hj2 : j < qs.length - (i + 1) := by rw [List.length_drop] at hj; exact hj
        have := List.pairwise_iff_getElem.1 HAP.out i (i + 1 + j) hil (by omega) (by omega) k h1
        rw [e] at this
        exact this h2)
      have HQin : Hid ((qs[i]'hil) ∈ qs) := hid (List.getElem_mem hil)
      generalize qs[i]'hil = x at c1 c2 hlab hsmp hsl hss HAPi HQin
      obtain ⟨lv, sv, labs, smps⟩ := x
      simp only at c1 c2 hlab hsmp hsl hss
      obtain ⟨la, lc, hle⟩ := ownN_slice hlab
      obtain ⟨sa, sc, hse⟩ := ownN_slice hsmp
      subst hle hse
      obtain ⟨NL, hNL⟩ : ∃ N, labs.length = N := ⟨_, rfl⟩
      obtain ⟨NS, hNS⟩ : ∃ N, smps.length = N := ⟨_, rfl⟩
      have hlab' : wr.ownsRow B 46 2 (.slice la NL lc) NL (labL labs) := by have h2 : wr.ownsRow B 46 2 (.slice la labs.length lc) labs.length (labL labs) := hlab; rw [hNL] at h2; exact h2
      have hsmp' : wr.ownsRow B 38 2 (.slice sa NS sc) NS (smpL smps) := by have h2 : wr.ownsRow B 38 2 (.slice sa smps.length sc) smps.length (smpL smps) := hsmp; rw [hNS] at h2; exact h2
      rw [hNL] at c1 hsl HAPi HQin
      rw [hNS] at c2 hss HAPi HQin
      have HLb := hid hlab'
      have HSb := hid hsmp'
      have HNL := hid hNL
      have HNS := hid hNS
      obtain ⟨wo, hwo⟩ : ∃ wo, wo = wr := ⟨_, rfl⟩
      subst hwo
      have C1 := hid c1
      have C2 := hid c2
      clear hx hmem hW hlab hsmp hlab' hsmp' hNL hNS hil
      go_wp2_with fail
      go_loopw [3] (fun s wt => ∃ (k : Nat) (ys : List Value), k ≤ NS ∧ s = .int .i64 (k : Int) ∧ wt.ownsRow B 38 2 (.slice sa NS sc) NS ys ∧ Only (fun j => (Value.slice sa NS sc).ownBlock = some j) wo wt) (fun s _ => NS - (intOf s).toNat)
      case atStart => exact ⟨0, _, by omega, rfl, HSb.out, Only.refl _ _⟩
      case round =>
        obtain ⟨k, ys, hk, rfl, hy, ko⟩ := hrel
        have hgne : ¬ (Value.slice sa NS sc).ownBlock = some g := fun e => (ownN_typed HSb.out e).ne (ownN_typed HW.out.row rfl) (by decide) rfl
        have t2 := only_cell ko hgne C2.out
        by_cases hks : k < NS
        · obtain ⟨gs, caps, hgs⟩ := ownN_some hy (by omega)
          cases hgs
          obtain ⟨⟨x1, y1⟩, f1, ⟨x2, y2⟩, f2, hst⟩ := two_cells hy hks (.int .i64 (-1)) (.int .i64 (-1))
          have HST := hid hst
          have HKO := hid (only_two (a := k * 2) (b := k * 2 + 1) (p := .int .i64 (-1)) (q := .int .i64 (-1)) ko (fun _ => rfl))
          clear hy ko hst hgne c1 c2
          go_wp2_with fail
          go_roundw
          case rel => exact ⟨k + 1, _, by omega, by go_num, HST.out, HKO.out⟩
          case measure => simp [intOf]; omega
        · have hlne : ∀ j, (Value.slice la NL lc).ownBlock = some j → ¬ (Value.slice sa NS sc).ownBlock = some j := fun j e1 e2 => (ownN_typed HLb.out e1).ne (ownN_typed HSb.out e2) (by decide) rfl
          have HLb2 := hid (ownN_only HLb.out ko hlne)
          have C1b := hid (only_cell ko hgne C1.out)
          have HKO := hid ko
          clear hy ko hlne c1 c2
          obtain ⟨wp, hwp⟩ : ∃ wp, wp = wr := ⟨_, rfl⟩
          subst hwp
          go_wp2_with fail
          go_loopw [4] (fun s wt => ∃ (k : Nat) (ys : List Value), k ≤ NL ∧ s = .int .i64 (k : Int) ∧ wt.ownsRow B 46 2 (.slice la NL lc) NL ys ∧ Only (fun j => (Value.slice la NL lc).ownBlock = some j) wp wt) (fun s _ => NL - (intOf s).toNat)
          case atStart => exact ⟨0, _, by omega, rfl, HLb2.out, Only.refl _ _⟩
          case round =>
            obtain ⟨m, ys, hm, rfl, hy, kl⟩ := hrel
            have hgl : ¬ (Value.slice la NL lc).ownBlock = some g := fun e => (ownN_typed HLb.out e).ne (ownN_typed HW.out.row rfl) (by decide) rfl
            have t1 := only_cell kl hgl C1b.out
            by_cases hml : m < NL
            · obtain ⟨gs, caps, hgs⟩ := ownN_some hy (by omega)
              cases hgs
              obtain ⟨⟨x1, y1⟩, f1, ⟨x2, y2⟩, f2, hst⟩ := two_cells hy hml (.string ⟨#[]⟩) (.string ⟨#[]⟩)
              have HST := hid hst
              have HKL := hid (only_two (a := m * 2) (b := m * 2 + 1) (p := .string ⟨#[]⟩) (q := .string ⟨#[]⟩) kl (fun _ => rfl))
              clear hy kl hst hgl t2
              go_wp2_with fail
              go_roundw
              case rel => exact ⟨m + 1, _, by omega, by go_num, HST.out, HKL.out⟩
              case measure => simp [intOf]; omega
            · have hall : Only (fun j => (Value.slice sa NS sc).ownBlock = some j ∨ (Value.slice la NL lc).ownBlock = some j) wo wr := (HKO.out.mono (fun _ _ e => .inl e)).trans kl (fun j _ e => .inr e)
              have hrow := ownN_only HW.out.row hall (fun b hb e => by
                cases hb
                rcases e with e | e
                · exact hgne e
                · exact hgl e)
              obtain ⟨⟨x1, y1⟩, f1, ⟨x2, y2⟩, f2, hst⟩ := two_cells hrow hlt (.slice none 0 0) (.slice none 0 0)
              have hfin : Only (fun j => ((Value.slice sa NS sc).ownBlock = some j ∨ (Value.slice la NL lc).ownBlock = some j) ∨ j = g) wo ((wr.setCell ⟨g, i * 2, none⟩ (.slice none 0 0)).setCell ⟨g, i * 2 + 1, none⟩ (.slice none 0 0)) := only_two (hall.mono (fun _ _ e => .inl e)) (fun _ => .inr rfl)
              have hkeep : ∀ q ∈ qs.drop (i + 1), ∀ j, q.has j → ¬ (((Value.slice sa NS sc).ownBlock = some j ∨ (Value.slice la NL lc).ownBlock = some j) ∨ j = g) := fun q hq j hj e => by
                rcases e with e | e
                · exact HAPi.out q hq j (by rcases e with e | e; exact .inr e; exact .inl e) hj
                · subst e
                  have hq2 : q ∈ qs.drop i := by
                    rw [← List.drop_drop] at hq
                    exact List.mem_of_mem_drop hq
                  rcases hj with hj | hj
                  · exact (ownN_typed (HW.out.lab q hq2) hj).ne (ownN_typed HW.out.row rfl) (by decide) rfl
                  · exact (ownN_typed (HW.out.smp q hq2) hj).ne (ownN_typed HW.out.row rfl) (by decide) rfl
              have hsub : ∀ q, q ∈ qs.drop (i + 1) → q ∈ qs.drop i := fun q hq => by
                rw [← List.drop_drop] at hq
                exact List.mem_of_mem_drop hq
              have HNEW : Hid (WipI w ((wr.setCell ⟨g, i * 2, none⟩ (.slice none 0 0)).setCell ⟨g, i * 2 + 1, none⟩ (.slice none 0 0)) B g cap n qs (i + 1) ((xs.set (i * 2) (.slice none 0 0)).set (i * 2 + 1) (.slice none 0 0))) := hid ⟨hst, fun j hj => by rw [List.getElem?_set_ne (by omega), List.getElem?_set_ne (by omega)]; exact HW.out.rest j (by omega), fun q hq => ownN_only (HW.out.lab q (hsub q hq)) hfin (fun b hb => hkeep q hq b (.inl hb)), fun q hq => ownN_only (HW.out.smp q (hsub q hq)) hfin (fun b hb => hkeep q hq b (.inr hb)), HW.out.only.trans hfin (fun j _ e => by
                rcases e with e | e
                · exact .inr ⟨_, HQin.out, by rcases e with e | e; exact .inr e; exact .inl e⟩
                · exact .inl (by rw [e]; rfl))⟩
              clear hall hrow hst hfin hkeep hsub hy kl hgl hgne t2 y1
              go_wp2_with fail
              go_roundw
              case rel => exact ⟨i + 1, _, by omega, by go_num, HNEW.out⟩
              case measure => simp [intOf]; omega
    · have HO := hid hW.only
      clear hW
      go_wp2_with fail
      go_returns
      exact ⟨rfl, HO.out⟩
end Go.Proofs.YtnbfbnhiikliaaaGreat.Hd

/-
  The law's own Lent: rows in new memory, with something behind the end of each one's labels.
-/
namespace Go.Proofs.YtnbfbnhiikliaaaGreat.Hd
open Go.RowKit Go.Proofs.Lys Go.Maps Go.Proofs.YtnbfbnhiikliaaaGreat.N
set_option linter.unusedVariables false
set_option linter.unusedSimpArgs false

/-- A row that is lent: its labels lie in a block of their own, one more behind them. -/
def LentQ (w : World) (B : Nat) (q : RowC) : Prop := ∃ g cap, q.lv = .slice (some ⟨g, 0, none⟩) q.r.1.length cap ∧ LabAt w B (.slice (some ⟨g, 0, none⟩) (q.r.1.length + 1) cap) (q.r.1 ++ [endL])
/-- Rows that are lent. -/
structure LentI (w wr : World) (v : Value) (qs : List RowC) : Prop where
  row : RowAt wr w.heap.size v qs
  lent : ∀ q ∈ qs, LentQ wr w.heap.size q
  apart : qs.Pairwise (fun a b => ∀ j, a.lv.ownBlock = some j → b.lv.ownBlock ≠ some j)
  kept : Kept w wr
theorem LentQ.lt {w : World} {B : Nat} {q : RowC} (h : LentQ w B q) {j : Nat} (hj : q.lv.ownBlock = some j) : B ≤ j ∧ j < w.heap.size := by
  obtain ⟨g, cap, e, hl⟩ := h
  rw [e] at hj
  exact ownN_lt hl hj
theorem LentQ.typed {w : World} {B : Nat} {q : RowC} (h : LentQ w B q) {j : Nat} (hj : q.lv.ownBlock = some j) : Typed w j 46 := by
  obtain ⟨g, cap, e, hl⟩ := h
  rw [e] at hj
  exact ownN_typed hl hj
theorem LentQ.only {w W : World} {B : Nat} {O : Nat → Prop} {q : RowC} (h : LentQ w B q) (k : Only O w W) (hO : ∀ j, q.lv.ownBlock = some j → ¬ O j) : LentQ W B q := by
  obtain ⟨g, cap, e, hl⟩ := h
  exact ⟨g, cap, e, ownN_only hl k (fun b hb => hO b (by rw [e]; exact hb))⟩
theorem LentQ.src {w : World} {B : Nat} {q : RowC} (h : LentQ w B q) : LabSrc w q.lv q.r.1 ∧ ∀ Z : Nat → Prop, (∀ j, B ≤ j → Z j) → InZ Z q.lv := by
  obtain ⟨g, cap, e, hl⟩ := h
  refine ⟨?_, fun Z hZ a n c he hn => ?_⟩
  · rw [e]
    by_cases h0 : q.r.1.length = 0
    · exact .inl ⟨_, _, by rw [h0], List.length_eq_zero_iff.1 h0⟩
    · rcases LabAt.src hl with ⟨a, c, hv, hn⟩ | ⟨_, b, o, c, hv, hc⟩
      · have := congrArg List.length hn
        simp at this
      · rw [show (q.r.1 ++ [endL]).length = q.r.1.length + 1 by simp] at hv
        cases hv
        refine .inr ⟨by omega, g, 0, cap, rfl, fun i hi => ?_⟩
        have := hc i (by simp; omega)
        rw [List.getElem_append_left hi] at this
        exact this
  · rw [e] at he
    cases he
    exact hZ g (ownN_lt hl rfl).1
theorem lent_labs {w : World} {B : Nat} {qs : List RowC} (h : ∀ q ∈ qs, LentQ w B q) (Z : Nat → Prop) (hZ : ∀ j, B ≤ j → Z j) : RowLabs w Z qs := fun q hq => ⟨(h q hq).src.1, (h q hq).src.2 Z hZ⟩

/-- One row more. -/
theorem lent_app {w wr X : World} {v : Value} {qs : List RowC} (h : LentI w wr v qs) (kX : Kept wr X) {g cap : Nat} {r : Row} (hl : LabAt X wr.heap.size (.slice (some ⟨g, 0, none⟩) (r.1.length + 1) cap) (r.1 ++ [endL])) (hn : qs.length ≤ 10000) :
    ∃ v' X', Hid ((Builtin.append_ #[26, 26] 0 #[v, .slice (some ⟨X.heap.size, 0, none⟩) 1 1]).run Tryz.prog (X.alloc (.cells #[.slice (some ⟨g, 0, none⟩) r.1.length cap, .int .i64 r.2.1, .int .i64 r.2.2] 40)) = .ok v' X') ∧ LentI w X' v' (qs ++ [⟨.slice (some ⟨g, 0, none⟩) r.1.length cap, r⟩]) := by
  have hws := h.kept.size
  have hxs := kX.size
  have ka : Kept X (X.alloc (.cells #[.slice (some ⟨g, 0, none⟩) r.1.length cap, .int .i64 r.2.1, .int .i64 r.2.2] 40)) := (Only.refl _ X).alloc _
  have kk := kX.trans ka (fun _ _ f => f)
  have hb := Blk.new X [.slice (some ⟨g, 0, none⟩) r.1.length cap, .int .i64 r.2.1, .int .i64 r.2.2] 40
  have hq : LentQ (X.alloc (.cells #[.slice (some ⟨g, 0, none⟩) r.1.length cap, .int .i64 r.2.1, .int .i64 r.2.2] 40)) w.heap.size ⟨.slice (some ⟨g, 0, none⟩) r.1.length cap, r⟩ := ⟨g, cap, rfl, ownN_base (ownN_stay hl ka) hws⟩
  have hlit : RowCells (X.alloc (.cells #[.slice (some ⟨g, 0, none⟩) r.1.length cap, .int .i64 r.2.1, .int .i64 r.2.2] 40)) (.slice (some ⟨X.heap.size, 0, none⟩) 1 1) [⟨.slice (some ⟨g, 0, none⟩) r.1.length cap, r⟩] := .inr ⟨X.heap.size, 0, 1, rfl, fun i hi => by
    have : i = 0 := by simpa using hi
    subst this
    exact ⟨hb.cell 0 rfl, hb.cell 1 rfl, hb.cell 2 rfl⟩⟩
  have hrow := ownN_stay h.row kk
  obtain ⟨v', X', hr, ho, hg, hat⟩ := row_append hrow hlit (lent_labs (fun q hq' => by
    have : q = ⟨.slice (some ⟨g, 0, none⟩) r.1.length cap, r⟩ := by simpa using hq'
    subst this
    exact hq) (fun _ => True) (fun _ _ => trivial)) (by simp; omega) (by have := kk.size; omega)
  have hon : Only (fun j => v.ownBlock = some j) (X.alloc (.cells #[.slice (some ⟨g, 0, none⟩) r.1.length cap, .int .i64 r.2.1, .int .i64 r.2.2] 40)) X' := (Only.refl _ _).grown hg (fun j e _ => e)
  refine ⟨v', X', hr, ⟨ho, fun q hq' => ?_, ?_, (h.kept.trans kk (fun _ _ f => f)).trans hon (fun j hj e => by have := (ownN_lt hrow e).1; omega)⟩⟩
  · rcases List.mem_append.1 hq' with hq' | hq'
    · have h1 := (h.lent q hq').only kk (fun _ _ f => f)
      exact h1.only hon (fun j hj e => (h1.typed hj).ne (ownN_typed hrow e) (by decide) rfl)
    · have : q = ⟨.slice (some ⟨g, 0, none⟩) r.1.length cap, r⟩ := by simpa using hq'
      subst this
      exact hq.only hon (fun j hj e => (hq.typed hj).ne (ownN_typed hrow e) (by decide) rfl)
  · refine List.pairwise_append.2 ⟨h.apart, List.pairwise_singleton _ _, fun a ha b hb j hj hj2 => ?_⟩
    have : b = ⟨.slice (some ⟨g, 0, none⟩) r.1.length cap, r⟩ := by simpa using hb
    subst this
    have h1 := ((h.lent a ha).lt hj).2
    have h2 := (ownN_lt hl hj2).1
    omega

/-- What Lent leaves: the rows, and one more behind them. -/
def LentA (w : World) (rs : List Row) (e : Ending) (w' : World) : Prop :=
  ∃ v qs, e = .returned v ∧ RowAt w' w.heap.size v (qs ++ [⟨.slice none 0 0, ([], (-71, 0))⟩]) ∧ qs.map (·.r) = rs ∧ (∀ q ∈ qs, LentQ w' w.heap.size q) ∧ qs.Pairwise (fun a b => ∀ j, a.lv.ownBlock = some j → b.lv.ownBlock ≠ some j) ∧ Kept w w'

set_option maxRecDepth 100000 in
set_option maxHeartbeats 6400000 in
theorem rlent_any {w : World} {Z : Nat → Prop} (v : Value) (rs : List Row) (hs : RowSrc w Z v rs) (hn : rs.length ≤ 1000) (hl : ∀ r ∈ rs, r.1.length ≤ 5000) :
    Calls Tryz.prog 9 #[v] w (LentA w rs) := by
  obtain ⟨a1, c1, rfl⟩ := hs.len
  obtain ⟨L, hL⟩ : ∃ L, rs.length = L := ⟨_, rfl⟩
  rw [hL] at hs hn ⊢
  have HS := hid hs
  have HL := hid hL
  have HLL := hid hl
  clear hs hL hl
  go_enter Tryz.func9, Tryz.ntmps9
  go_wp2_with fail
  go_loopw [3, 4, 5] (fun p s _ wt => ∃ (i : Nat) (qs : List RowC), i ≤ L ∧ s = .int .i64 (i : Int) ∧ LentI w wt p qs ∧ qs.map (·.r) = rs.take i) (fun _ s _ _ => L - (intOf s).toNat)
  case atStart => exact ⟨0, [], by omega, rfl, ⟨World.ownsRow_nil _ _ _ _, (fun q hq => by cases hq), .nil, Only.refl _ _⟩, rfl⟩
  case round =>
    obtain ⟨i, qs, hi, rfl, hI, hm⟩ := hrel
    have HI := hid hI
    have HM := hid hm
    have hql : qs.length = i := by
      have := congrArg List.length hm
      rw [List.length_map, List.length_take] at this
      have := HL.out
      omega
    have HQL := hid hql
    by_cases hlt : i < L
    · have hil : i < rs.length := by have := HL.out; omega
      obtain ⟨b, o, lv, rfl, y0, y1, y2, hlab, _⟩ := (HS.out.stay hI.kept).cell HL.out i hlt
      have hlen := HLL.out _ (List.getElem_mem hil)
      have HM1 : Hid ((qs.map (·.r)) ++ [rs[i]] = rs.take (i + 1)) := hid (by rw [hm]; exact List.take_append_getElem hil)
      generalize rs[i] = r at y1 y2 hlab hlen HM1
      obtain ⟨rl, T, V⟩ := r
      simp only at y1 y2 hlab hlen
      obtain ⟨la, lc, hle⟩ := hlab.len
      subst hle
      have HLab := hid hlab
      have HLN := hid (fun (W : World) (kW : Kept wr W) => lent_any W _ rl (hlab.stay kW) hlen)
      have HAP := hid (fun (X : World) (kX : Kept wr X) (g cap : Nat) (h : LabAt X wr.heap.size (.slice (some ⟨g, 0, none⟩) (rl.length + 1) cap) (rl ++ [endL])) => lent_app (r := (rl, T, V)) hI kX h (by omega))
      obtain ⟨pa, pc, hpe⟩ := ownN_slice hI.row
      rw [hql] at hpe
      subst hpe
      obtain ⟨NL, hNL⟩ : ∃ N, rl.length = N := ⟨_, rfl⟩
      rw [hNL] at y0 hlen HLN HAP
      have S0 : Hid (∀ W, Kept wr W → W.cell? ⟨b, o + i * 3, none⟩ = some (.slice la NL lc)) := hid (fun W kW => only_cell kW (fun f => f) y0)
      have HNL := hid hNL
      have hbx := Blk.new wr [.slice la NL lc, .int .i64 T, .int .i64 V] 40
      have HBX := hid hbx
      have HKX := hid ((Only.refl (fun _ => False) wr).alloc (.cells #[.slice la NL lc, .int .i64 T, .int .i64 V] 40))
      clear hI hm hlab hil hql hNL hbx
      go_wp2_with fail
      generalize wr.alloc (.cells #[.slice la NL lc, .int .i64 T, .int .i64 V] 40) = w1 at HBX HKX ⊢
      obtain ⟨bx, hbx⟩ : ∃ bx, wr.heap.size = bx := ⟨_, rfl⟩
      rw [hbx] at HBX ⊢
      have HBXE := hid hbx
      clear hbx y0 y1 y2
      refine wp_region_noPanic ?_
      refine wp_region_last (L := 14) (S := fun w' => Kept w1 w') (by kernel_rfl) ?_
      have K0 := hid (show Kept w1 w1.drew from (Only.refl _ _).drew)
      have hS : (fun w' : World => Kept w1 w') w1.drew := K0.out
      refine wpAnyL_take (i := 0) (v := .slice (some ⟨b, o, none⟩) L c1) rfl (by kernel_rfl) (by kernel_rfl) (by kernel_rfl) (by kernel_rfl) (by kernel_rfl) (fun _ _ _ h => h) (Or.inl ⟨by rfl, ?_⟩) hS ?_
      · (intro w' hSw; have s0 := S0.out w' (HKX.out.trans hSw (fun _ _ f => f)); clear hSw; go_simp)
      (try simp only [List.getElem_toArray, List.getElem_cons_succ, List.getElem_cons_zero])
      go_frame
      refine wpAnyL_take (i := 1) (v := .int .i64 (i : Int)) rfl (by kernel_rfl) (by kernel_rfl) (by kernel_rfl) (by kernel_rfl) (by kernel_rfl) (fun _ _ _ h => h) (Or.inl ⟨by rfl, ?_⟩) hS ?_
      · (intro w' hSw; have s0 := S0.out w' (HKX.out.trans hSw (fun _ _ f => f)); clear hSw; go_simp)
      (try simp only [List.getElem_toArray, List.getElem_cons_succ, List.getElem_cons_zero])
      go_frame
      refine wpAnyL_take (i := 2) (v := .pointer (some ⟨b, o + i * 3, none⟩)) rfl (by kernel_rfl) (by kernel_rfl) (by kernel_rfl) (by kernel_rfl) (by kernel_rfl) (fun _ _ _ h => h) (Or.inl ⟨by rfl, ?_⟩) hS ?_
      · (intro w' hSw; have s0 := S0.out w' (HKX.out.trans hSw (fun _ _ f => f)); clear hSw; go_simp)
      (try simp only [List.getElem_toArray, List.getElem_cons_succ, List.getElem_cons_zero])
      go_frame
      refine wpAnyL_take (i := 3) (v := .pointer (some ⟨b, o + i * 3, none⟩)) rfl (by kernel_rfl) (by kernel_rfl) (by kernel_rfl) (by kernel_rfl) (by kernel_rfl) (fun _ _ _ h => h) (Or.inl ⟨by rfl, ?_⟩) hS ?_
      · (intro w' hSw; have s0 := S0.out w' (HKX.out.trans hSw (fun _ _ f => f)); clear hSw; go_simp)
      (try simp only [List.getElem_toArray, List.getElem_cons_succ, List.getElem_cons_zero])
      go_frame
      refine wpAnyL_take (i := 4) (v := .slice la NL lc) rfl (by kernel_rfl) (by kernel_rfl) (by kernel_rfl) (by kernel_rfl) (by kernel_rfl) (fun _ _ _ h => h) (Or.inl ⟨by rfl, ?_⟩) hS ?_
      · (intro w' hSw; have s0 := S0.out w' (HKX.out.trans hSw (fun _ _ f => f)); clear hSw; go_simp)
      (try simp only [List.getElem_toArray, List.getElem_cons_succ, List.getElem_cons_zero])
      go_frame
      refine wpAnyL_take (i := 6) (v := .slice (some ⟨b, o, none⟩) L c1) rfl (by kernel_rfl) (by kernel_rfl) (by kernel_rfl) (by kernel_rfl) (by kernel_rfl) (fun _ _ _ h => h) (Or.inl ⟨by rfl, ?_⟩) hS ?_
      · (intro w' hSw; have s0 := S0.out w' (HKX.out.trans hSw (fun _ _ f => f)); clear hSw; go_simp)
      (try simp only [List.getElem_toArray, List.getElem_cons_succ, List.getElem_cons_zero])
      go_frame
      refine wpAnyL_take (i := 7) (v := .int .i64 (i : Int)) rfl (by kernel_rfl) (by kernel_rfl) (by kernel_rfl) (by kernel_rfl) (by kernel_rfl) (fun _ _ _ h => h) (Or.inl ⟨by rfl, ?_⟩) hS ?_
      · (intro w' hSw; have s0 := S0.out w' (HKX.out.trans hSw (fun _ _ f => f)); clear hSw; go_simp)
      (try simp only [List.getElem_toArray, List.getElem_cons_succ, List.getElem_cons_zero])
      go_frame
      refine wpAnyL_take (i := 8) (v := .pointer (some ⟨b, o + i * 3, none⟩)) rfl (by kernel_rfl) (by kernel_rfl) (by kernel_rfl) (by kernel_rfl) (by kernel_rfl) (fun _ _ _ h => h) (Or.inl ⟨by rfl, ?_⟩) hS ?_
      · (intro w' hSw; have s0 := S0.out w' (HKX.out.trans hSw (fun _ _ f => f)); clear hSw; go_simp)
      (try simp only [List.getElem_toArray, List.getElem_cons_succ, List.getElem_cons_zero])
      go_frame
      refine wpAnyL_take (i := 9) (v := .pointer (some ⟨b, o + i * 3, none⟩)) rfl (by kernel_rfl) (by kernel_rfl) (by kernel_rfl) (by kernel_rfl) (by kernel_rfl) (fun _ _ _ h => h) (Or.inl ⟨by rfl, ?_⟩) hS ?_
      · (intro w' hSw; have s0 := S0.out w' (HKX.out.trans hSw (fun _ _ f => f)); clear hSw; go_simp)
      (try simp only [List.getElem_toArray, List.getElem_cons_succ, List.getElem_cons_zero])
      go_frame
      refine wpAnyL_take (i := 10) (v := .slice la NL lc) rfl (by kernel_rfl) (by kernel_rfl) (by kernel_rfl) (by kernel_rfl) (by kernel_rfl) (fun _ _ _ h => h) (Or.inl ⟨by rfl, ?_⟩) hS ?_
      · (intro w' hSw; have s0 := S0.out w' (HKX.out.trans hSw (fun _ _ f => f)); clear hSw; go_simp)
      (try simp only [List.getElem_toArray, List.getElem_cons_succ, List.getElem_cons_zero])
      go_frame
      refine wpAnyL_take (i := 11) (v := .int .i64 (NL : Int)) rfl (by kernel_rfl) (by kernel_rfl) (by kernel_rfl) (by kernel_rfl) (by kernel_rfl) (fun _ _ _ h => h) (Or.inl ⟨by rfl, ?_⟩) hS ?_
      · (intro w' hSw; have s0 := S0.out w' (HKX.out.trans hSw (fun _ _ f => f)); clear hSw; go_simp)
      (try simp only [List.getElem_toArray, List.getElem_cons_succ, List.getElem_cons_zero])
      go_frame
      refine wpAnyL_one (i := 5) (by kernel_rfl) rfl rfl ?_
      go_simp
      refine (HLN.out _ (HKX.out.trans K0.out (fun _ _ f => f))).mono ?_
      rintro e X ⟨g, cap, rfl, hgl, kX⟩
      have KX := hid (show Kept w1 X from K0.out.trans kX (fun _ _ f => f))
      have hcapn : NL + 1 ≤ cap := by
        rcases hgl.2 with ⟨h, _⟩ | ⟨g', cap', cur, h, _, _, hc, _⟩
        · cases h
        · simp only [Value.slice.injEq] at h
          have h3 := h.2.2
          have := HNL.out
          simp at hc
          omega
      have hsl : ∀ W, (Instr.sliceAt 36 (.slice (some ⟨g, 0, none⟩) (NL + 1) cap) none (some (.int .i64 (NL : Int))) none).run Tryz.prog W = .ok (.slice (some ⟨g, 0, none⟩) NL cap) W := fun W => N.slice_hi (by omega) (by omega) W
      have hbX := KX.out.blk HBX.out (fun f => f)
      have y0 := hbX.cell 0 rfl
      have f0 := hbX.frozen 0
      have hb2 := hbX.set 0 (.slice (some ⟨g, 0, none⟩) NL cap)
      have t0 := hb2.cell 0 rfl
      have t1 := hb2.cell 1 rfl
      have t2 := hb2.cell 2 rfl
      have hkw : Kept wr (X.setCell ⟨bx, 0, none⟩ (.slice (some ⟨g, 0, none⟩) NL cap)) := (HKX.out.trans KX.out (fun _ _ f => f)).setCell (p := ⟨bx, 0, none⟩) (fun hlt => absurd hlt (by have := HBXE.out; show ¬ bx < _; omega)) _
      have hgl2 : LabAt (X.setCell ⟨bx, 0, none⟩ (.slice (some ⟨g, 0, none⟩) NL cap)) wr.heap.size (.slice (some ⟨g, 0, none⟩) (NL + 1) cap) (rl ++ [endL]) := ownN_base (ownN_only hgl ((Only.refl (fun j => j = bx) X).setCell (p := ⟨bx, 0, none⟩) (fun _ => rfl) _) (fun j hj e => by subst e; exact (ownN_typed hgl hj).ne hbX.typed (by decide) rfl)) (by have := HKX.out.size; exact this)
      obtain ⟨v', X', R, hI'⟩ := HAP.out _ hkw g cap hgl2
      have HI2 := hid hI'
      clear hgl kX hbX hb2 hkw hgl2 hI' hS
      refine ⟨KX.out, ?_⟩
      (try go_frame)
      refine wpAnyL_one (i := 12) (by kernel_rfl) rfl rfl ?_
      go_simp
      refine ⟨KX.out, ?_⟩
      (try go_frame)
      refine wpAnyL_one (i := 13) (by kernel_rfl) rfl rfl ?_
      go_simp
      refine ⟨KX.out, ?_⟩
      (try go_frame)
      refine wpAnyL_last (by kernel_rfl) (by kernel_rfl) rfl rfl ?_
      go_simp
      refine NoPanic.normal ?_
      generalize X.setCell ⟨bx, 0, none⟩ (.slice (some ⟨g, 0, none⟩) NL cap) = X2 at t0 t1 t2 R ⊢
      go_wp2_with (at_builtin; refine wpList_append_run rfl _ _ _ rfl rfl rfl R ?_)
      go_roundw
      case rel =>
        refine ⟨i + 1, _, by omega, by go_num, HI2.out, ?_⟩
        rw [List.map_append]
        exact HM1.out
      case measure => simp [intOf]; omega
    · have HMF : Hid (qs.map (·.r) = rs) := hid (by rw [hm]; exact List.take_of_length_le (by have := HL.out; omega))
      have ka : Kept wr (wr.alloc (.cells #[.slice none 0 0, .int .i64 (-71), .int .i64 0] 40)) := (Only.refl _ wr).alloc _
      have hb := Blk.new wr [.slice none 0 0, .int .i64 (-71), .int .i64 0] 40
      have hlit : RowCells (wr.alloc (.cells #[.slice none 0 0, .int .i64 (-71), .int .i64 0] 40)) (.slice (some ⟨wr.heap.size, 0, none⟩) 1 1) [⟨.slice none 0 0, ([], (-71, 0))⟩] := .inr ⟨wr.heap.size, 0, 1, rfl, fun i hi => by
        have : i = 0 := by simpa using hi
        subst this
        exact ⟨hb.cell 0 rfl, hb.cell 1 rfl, hb.cell 2 rfl⟩⟩
      have hrow := ownN_stay hI.row ka
      obtain ⟨v', X', hr, ho, hg, hat⟩ := row_append (Z := fun _ => True) hrow hlit (fun q hq => by
        have : q = ⟨.slice none 0 0, ([], (-71, 0))⟩ := by simpa using hq
        subst this
        exact ⟨.inl ⟨_, _, rfl, rfl⟩, fun _ _ _ _ _ => trivial⟩) (by simp; omega) (by have := ka.size; have := hI.kept.size; omega)
      have R := hid hr
      have hon : Only (fun j => (u3 : Value).ownBlock = some j) (wr.alloc (.cells #[.slice none 0 0, .int .i64 (-71), .int .i64 0] 40)) X' := (Only.refl _ _).grown hg (fun j e _ => e)
      have HF : Hid (LentA w rs (.returned v') X') := hid ⟨v', qs, rfl, ho, HMF.out, fun q hq => by
        have h1 := (hI.lent q hq).only ka (fun _ _ f => f)
        exact h1.only hon (fun j hj e => (h1.typed hj).ne (ownN_typed hrow e) (by decide) rfl), hI.apart, (hI.kept.trans ka (fun _ _ f => f)).trans hon (fun j hj e => by have := (ownN_lt hrow e).1; omega)⟩
      obtain ⟨pa, pc, hpe⟩ := ownN_slice hI.row
      rw [hql] at hpe
      subst hpe
      clear hI hm hql hr ho hg hat hon hrow hlit hb ka
      go_wp2_with (at_builtin; refine wpList_append_run rfl _ _ _ rfl rfl rfl R ?_)
      go_ret
      exact HF.out
end Go.Proofs.YtnbfbnhiikliaaaGreat.Hd

/-
  The law's own Stay: the rows that were lent are as they were.
-/
namespace Go.Proofs.YtnbfbnhiikliaaaGreat.Hd
open Go.RowKit Go.Proofs.Lys Go.Maps Go.Proofs.YtnbfbnhiikliaaaGreat.N
set_option linter.unusedVariables false
set_option linter.unusedSimpArgs false

/-- Rows that were lent, as they are held. -/
structure FullAt (w : World) (B : Nat) (v : Value) (qs : List RowC) : Prop where
  row : RowAt w B v (qs ++ [⟨.slice none 0 0, ([], (-71, 0))⟩])
  lent : ∀ q ∈ qs, LentQ w B q
  apart : qs.Pairwise (fun a b => ∀ j, a.lv.ownBlock = some j → b.lv.ownBlock ≠ some j)
/-- Their blocks. -/
def fullO (v : Value) (qs : List RowC) (j : Nat) : Prop := v.ownBlock = some j ∨ ∃ q ∈ qs, q.lv.ownBlock = some j
theorem FullAt.only {w W : World} {B : Nat} {v : Value} {qs : List RowC} {O : Nat → Prop} (h : FullAt w B v qs) (k : Only O w W) (hO : ∀ j, fullO v qs j → ¬ O j) : FullAt W B v qs :=
  ⟨ownN_only h.row k (fun b hb => hO b (.inl hb)), fun q hq => (h.lent q hq).only k (fun j hj => hO j (.inr ⟨q, hq, hj⟩)), h.apart⟩
theorem FullAt.stay {w W : World} {B : Nat} {v : Value} {qs : List RowC} (h : FullAt w B v qs) (k : Kept w W) : FullAt W B v qs := h.only k (fun _ _ f => f)
theorem FullAt.lt {w : World} {B : Nat} {v : Value} {qs : List RowC} (h : FullAt w B v qs) {j : Nat} (hj : fullO v qs j) : B ≤ j ∧ j < w.heap.size := by
  rcases hj with hj | ⟨q, hq, hj⟩
  · exact ownN_lt h.row hj
  · exact (h.lent q hq).lt hj
theorem FullAt.shape {w : World} {B : Nat} {v : Value} {qs : List RowC} (h : FullAt w B v qs) : ∃ g cap, v = .slice (some ⟨g, 0, none⟩) (qs.length + 1) cap ∧ qs.length + 1 ≤ cap := by
  have h1 := h.row
  have hl : (qs ++ [(⟨.slice none 0 0, ([], (-71, 0))⟩ : RowC)]).length = qs.length + 1 := by simp
  rcases h1.2 with ⟨_, h0⟩ | ⟨g, cap, cur, rfl, _, _, hc, _⟩
  · rw [hl] at h0
    omega
  · rw [hl] at hc ⊢
    exact ⟨g, cap, rfl, hc⟩
theorem FullAt.cells {w : World} {B g cap n : Nat} {qs : List RowC} (h : FullAt w B (.slice (some ⟨g, 0, none⟩) n cap) qs) (hn : qs.length + 1 = n) :
    (∀ i (hi : i < qs.length), w.cell? ⟨g, i * 3, none⟩ = some qs[i].lv ∧ w.cell? ⟨g, i * 3 + 1, none⟩ = some (.int .i64 qs[i].r.2.1) ∧ w.cell? ⟨g, i * 3 + 2, none⟩ = some (.int .i64 qs[i].r.2.2)) ∧ w.cell? ⟨g, qs.length * 3 + 1, none⟩ = some (.int .i64 (-71)) := by
  have h1 := h.row
  have hl : (qs ++ [(⟨.slice none 0 0, ([], (-71, 0))⟩ : RowC)]).length = qs.length + 1 := by simp
  unfold RowAt at h1
  rw [hl, hn] at h1
  refine ⟨fun i hi => ?_, ?_⟩
  · obtain ⟨a, b, c⟩ := rowL_at (qs ++ [(⟨.slice none 0 0, ([], (-71, 0))⟩ : RowC)]) i (by simp; omega)
    rw [List.getElem_append_left hi] at a b c
    exact ⟨by rw [h1.cellAt (i * 3) (by omega)]; exact a, by rw [h1.cellAt (i * 3 + 1) (by omega)]; exact b, by rw [h1.cellAt (i * 3 + 2) (by omega)]; exact c⟩
  · obtain ⟨a, b, c⟩ := rowL_at (qs ++ [(⟨.slice none 0 0, ([], (-71, 0))⟩ : RowC)]) qs.length (by simp)
    rw [h1.cellAt (qs.length * 3 + 1) (by omega)]
    rw [b]
    simp

set_option maxRecDepth 100000 in
set_option maxHeartbeats 6400000 in
theorem rstay_any {w : World} {Z : Nat → Prop} {B : Nat} (fv lv : Value) (qs : List RowC) (h : FullAt w B fv qs) (hs : RowSrc w Z lv (qs.map (·.r))) (hn : qs.length ≤ 1000) (hl : ∀ q ∈ qs, q.r.1.length ≤ 5000) :
    Calls Tryz.prog 16 #[fv, lv] w fun e w' => e = .returned (.bool true) ∧ Kept w w' := by
  obtain ⟨g, cap, rfl, hcap⟩ := h.shape
  obtain ⟨a1, c1, rfl⟩ := hs.len
  have hlm : (qs.map (·.r)).length = qs.length := List.length_map _
  obtain ⟨L, hL⟩ : ∃ L, qs.length = L := ⟨_, rfl⟩
  have hc := h.cells rfl
  have HC := hid hc.1
  have y9 := hc.2
  have HH := hid h
  rw [hlm] at hs ⊢
  rw [hL] at hs hn y9 HH ⊢
  have HS := hid hs
  have HL := hid hL
  have HLL := hid hl
  clear h hs hc hL hl hlm hcap
  go_enter Tryz.func16, Tryz.ntmps16
  go_wp2_with fail
  go_loopw [6, 7, 8] (fun s _ _ wt => ∃ (i : Nat), i ≤ L ∧ s = .int .i64 (i : Int) ∧ Kept w wt) (fun s _ _ _ => L - (intOf s).toNat)
  case atStart => exact ⟨0, by omega, rfl, Only.refl _ _⟩
  case round =>
    obtain ⟨i, hi, rfl, kr⟩ := hrel
    have HK := hid kr
    by_cases hlt : i < L
    · have hil : i < qs.length := by have := HL.out; omega
      obtain ⟨x0, x1, x2⟩ := HC.out i hil
      have hq := HH.out.lent _ (List.getElem_mem hil)
      have hlen := HLL.out _ (List.getElem_mem hil)
      obtain ⟨b, o, l2, rfl, z0, z1, z2, hlab, _⟩ := (HS.out.stay kr).cell (by rw [List.length_map]; exact HL.out) i hlt
      simp only [List.getElem_map] at z1 z2 hlab
      generalize qs[i] = q at x0 x1 x2 hq hlen z1 z2 hlab
      obtain ⟨qlv, rl, T, V⟩ := q
      simp only at x0 x1 x2 hlen z1 z2 hlab
      have hqs := hq.src.1
      obtain ⟨gl, gcap, hge, hgl⟩ := hq
      simp only at hge hgl
      subst hge
      obtain ⟨la, lc, hle⟩ := hlab.len
      subst hle
      have x0 := only_cell kr (fun f => f) x0
      have x1 := only_cell kr (fun f => f) x1
      have x2 := only_cell kr (fun f => f) x2
      have hend : w.cell? ⟨gl, rl.length * 2, none⟩ = some (.string ⟨#[45]⟩) := by
        have h1 := LabAt.src hgl
        rcases h1 with ⟨a, c, hv, hn⟩ | ⟨_, b', o', c', hv, hcl⟩
        · have := congrArg List.length hn
          simp at this
        · rw [show (rl ++ [endL]).length = rl.length + 1 by simp] at hv
          cases hv
          have := (hcl rl.length (by simp)).1
          simpa using this
      have e9 := only_cell kr (fun f => f) hend
      have hcapn : rl.length + 1 ≤ gcap := by
        rcases hgl.2 with ⟨h, _⟩ | ⟨g', cap', cur, h, _, _, hc, _⟩
        · cases h
        · simp only [Value.slice.injEq] at h
          have h3 := h.2.2
          simp at hc
          omega
      have HSM := hid (fun (W : World) (kW : Kept wr W) => same_any W _ _ rl ((hqs.stay kr).stay kW) (hlab.stay kW) (by omega))
      obtain ⟨NL, hNL⟩ : ∃ N, rl.length = N := ⟨_, rfl⟩
      rw [hNL] at x0 z0 hlen e9 hcapn HSM
      have hsl : ∀ W, (Instr.sliceAt 36 (.slice (some ⟨gl, 0, none⟩) NL gcap) none (some (.int .i64 ((NL : Int) + 1))) none).run Tryz.prog W = .ok (.slice (some ⟨gl, 0, none⟩) (NL + 1) gcap) W := fun W => by
        have := N.slice_hi (g := gl) (cap := gcap) (n := NL) (hi := NL + 1) hcapn (by omega) W
        simpa using this
      have S0 : Hid (∀ W, Kept wr W → W.cell? ⟨g, i * 3, none⟩ = some (.slice (some ⟨gl, 0, none⟩) NL gcap) ∧ W.cell? ⟨b, o + i * 3, none⟩ = some (.slice la NL lc)) := hid (fun W kW => ⟨only_cell kW (fun f => f) x0, only_cell kW (fun f => f) z0⟩)
      have hi9 : ¬ ((L : Int) + 1 ≤ (i : Int)) := by omega
      have hi8 : (i : Int) < (L : Int) + 1 := by omega
      clear kr hqs hgl hlab hend hNL
      go_wp2_with fail
      refine wp_region_noPanic ?_
      refine wp_region_last (L := 1000) (S := fun w' => Kept wr w') (by kernel_rfl) ?_
      have K0 := hid (show Kept wr wr.drew from (Only.refl _ _).drew)
      have hS : (fun w' : World => Kept wr w') wr.drew := K0.out
      refine wpAnyN_take (i := 0) (v := .slice (some ⟨g, 0, none⟩) (L + 1) cap) rfl (by kernel_rfl) (by kernel_rfl) (by kernel_rfl) (by decide) (by kernel_rfl) (fun _ _ _ h => h) (Or.inl ⟨by rfl, ?_⟩) hS ?_
      · (intro w' hSw; obtain ⟨s0, s1⟩ := S0.out w' hSw; clear hSw; go_simp)
      (try simp only [List.getElem_toArray, List.getElem_cons_succ, List.getElem_cons_zero])
      go_frame
      refine wpAnyN_take (i := 1) (v := .int .i64 (i : Int)) rfl (by kernel_rfl) (by kernel_rfl) (by kernel_rfl) (by decide) (by kernel_rfl) (fun _ _ _ h => h) (Or.inl ⟨by rfl, ?_⟩) hS ?_
      · (intro w' hSw; obtain ⟨s0, s1⟩ := S0.out w' hSw; clear hSw; go_simp)
      (try simp only [List.getElem_toArray, List.getElem_cons_succ, List.getElem_cons_zero])
      go_frame
      refine wpAnyN_take (i := 2) (v := .pointer (some ⟨g, i * 3, none⟩)) rfl (by kernel_rfl) (by kernel_rfl) (by kernel_rfl) (by decide) (by kernel_rfl) (fun _ _ _ h => h) (Or.inl ⟨by rfl, ?_⟩) hS ?_
      · (intro w' hSw; obtain ⟨s0, s1⟩ := S0.out w' hSw; clear hSw; go_simp)
      (try simp only [List.getElem_toArray, List.getElem_cons_succ, List.getElem_cons_zero])
      go_frame
      refine wpAnyN_take (i := 3) (v := .pointer (some ⟨g, i * 3, none⟩)) rfl (by kernel_rfl) (by kernel_rfl) (by kernel_rfl) (by decide) (by kernel_rfl) (fun _ _ _ h => h) (Or.inl ⟨by rfl, ?_⟩) hS ?_
      · (intro w' hSw; obtain ⟨s0, s1⟩ := S0.out w' hSw; clear hSw; go_simp)
      (try simp only [List.getElem_toArray, List.getElem_cons_succ, List.getElem_cons_zero])
      go_frame
      refine wpAnyN_take (i := 4) (v := .slice (some ⟨gl, 0, none⟩) NL gcap) rfl (by kernel_rfl) (by kernel_rfl) (by kernel_rfl) (by decide) (by kernel_rfl) (fun _ _ _ h => h) (Or.inl ⟨by rfl, ?_⟩) hS ?_
      · (intro w' hSw; obtain ⟨s0, s1⟩ := S0.out w' hSw; clear hSw; go_simp)
      (try simp only [List.getElem_toArray, List.getElem_cons_succ, List.getElem_cons_zero])
      go_frame
      refine wpAnyN_take (i := 5) (v := .slice (some ⟨b, o, none⟩) L c1) rfl (by kernel_rfl) (by kernel_rfl) (by kernel_rfl) (by decide) (by kernel_rfl) (fun _ _ _ h => h) (Or.inl ⟨by rfl, ?_⟩) hS ?_
      · (intro w' hSw; obtain ⟨s0, s1⟩ := S0.out w' hSw; clear hSw; go_simp)
      (try simp only [List.getElem_toArray, List.getElem_cons_succ, List.getElem_cons_zero])
      go_frame
      refine wpAnyN_take (i := 6) (v := .int .i64 (i : Int)) rfl (by kernel_rfl) (by kernel_rfl) (by kernel_rfl) (by decide) (by kernel_rfl) (fun _ _ _ h => h) (Or.inl ⟨by rfl, ?_⟩) hS ?_
      · (intro w' hSw; obtain ⟨s0, s1⟩ := S0.out w' hSw; clear hSw; go_simp)
      (try simp only [List.getElem_toArray, List.getElem_cons_succ, List.getElem_cons_zero])
      go_frame
      refine wpAnyN_take (i := 7) (v := .pointer (some ⟨b, o + i * 3, none⟩)) rfl (by kernel_rfl) (by kernel_rfl) (by kernel_rfl) (by decide) (by kernel_rfl) (fun _ _ _ h => h) (Or.inl ⟨by rfl, ?_⟩) hS ?_
      · (intro w' hSw; obtain ⟨s0, s1⟩ := S0.out w' hSw; clear hSw; go_simp)
      (try simp only [List.getElem_toArray, List.getElem_cons_succ, List.getElem_cons_zero])
      go_frame
      refine wpAnyN_take (i := 8) (v := .pointer (some ⟨b, o + i * 3, none⟩)) rfl (by kernel_rfl) (by kernel_rfl) (by kernel_rfl) (by decide) (by kernel_rfl) (fun _ _ _ h => h) (Or.inl ⟨by rfl, ?_⟩) hS ?_
      · (intro w' hSw; obtain ⟨s0, s1⟩ := S0.out w' hSw; clear hSw; go_simp)
      (try simp only [List.getElem_toArray, List.getElem_cons_succ, List.getElem_cons_zero])
      go_frame
      refine wpAnyN_take (i := 9) (v := .slice la NL lc) rfl (by kernel_rfl) (by kernel_rfl) (by kernel_rfl) (by decide) (by kernel_rfl) (fun _ _ _ h => h) (Or.inl ⟨by rfl, ?_⟩) hS ?_
      · (intro w' hSw; obtain ⟨s0, s1⟩ := S0.out w' hSw; clear hSw; go_simp)
      (try simp only [List.getElem_toArray, List.getElem_cons_succ, List.getElem_cons_zero])
      go_frame
      refine wpAnyL_one (i := 10) (by kernel_rfl) rfl rfl ?_
      go_simp
      refine (HSM.out _ K0.out).mono ?_
      rintro e X ⟨rfl, kX⟩
      have KX := hid (show Kept wr X from K0.out.trans kX (fun _ _ f => f))
      clear kX hS
      refine ⟨KX.out, ?_⟩
      (try go_frame)
      refine wpAnyL_one (i := 11) (by kernel_rfl) rfl rfl ?_
      go_simp
      refine ⟨KX.out, ?_⟩
      (try go_frame)
      refine wpAnyN_done (by kernel_rfl) ?_
      refine NoPanic.normal ?_
      have x0 := only_cell KX.out (fun f => f) x0
      have x1 := only_cell KX.out (fun f => f) x1
      have x2 := only_cell KX.out (fun f => f) x2
      have z0 := only_cell KX.out (fun f => f) z0
      have z1 := only_cell KX.out (fun f => f) z1
      have z2 := only_cell KX.out (fun f => f) z2
      have e9 := only_cell KX.out (fun f => f) e9
      go_wp2_with fail
      go_quiet (fail)
      have K3 : Kept X (X.drewN nq) := kept_drewH (Only.refl _ _) nq
      generalize X.drewN nq = w3 at K3 ⊢
      clear nq
      have HK3 := hid (HK.out.trans (KX.out.trans K3 (fun _ _ f => f)) (fun _ _ f => f))
      clear K3
      go_wp2_with fail
      go_roundw
      case rel => exact ⟨i + 1, by omega, by go_num, HK3.out⟩
      case measure => simp [intOf]; omega
    · clear kr
      go_wp2_with fail
      go_ret
      exact ⟨rfl, HK.out⟩
end Go.Proofs.YtnbfbnhiikliaaaGreat.Hd

/-
  Two heads, the document's own, and what is held beside them; many batches of rows that came in.
-/
namespace Go.Proofs.YtnbfbnhiikliaaaGreat.Hd
open Go.RowKit Go.Proofs.Lys Go.Maps Go.Proofs.YtnbfbnhiikliaaaGreat.N
set_option linter.unusedVariables false
set_option linter.unusedSimpArgs false

structure PlayI (w0 W : World) (F : Nat → Prop) (h o : HeadC) (O Oo : Nat → Prop) (Mh Mo : Mod) (Z : Nat → Prop) (B rb : Nat) (win : Int) (v : Value) (qs : List SV) : Prop where
  h_ : HeadIn w0 W h O Mh
  o_ : HeadIn w0 W o Oo Mo
  r_ : RefAt W Z B rb win v qs
  ok : ModOk (qs.map serV)
  zlt : ∀ j, Z j → j < W.heap.size
  bw : B ≤ W.heap.size
  rnew : ∀ j, refO Z rb v j → w0.heap.size ≤ j
  d1 : ∀ j, O j → ¬ Oo j
  d2 : ∀ j, refO Z rb v j → ¬ O j
  d3 : ∀ j, refO Z rb v j → ¬ Oo j
  flt : ∀ j, F j → j < W.heap.size
  fnew : ∀ j, F j → w0.heap.size ≤ j
  fd : ∀ j, F j → ¬ O j ∧ ¬ Oo j ∧ ¬ refO Z rb v j
section
variable {w0 W w' : World} {F : Nat → Prop} {h o : HeadC} {O Oo : Nat → Prop} {Mh Mo : Mod} {Z : Nat → Prop} {B rb : Nat} {win : Int} {v : Value} {qs : List SV}
theorem PlayI.rlt (p : PlayI w0 W F h o O Oo Mh Mo Z B rb win v qs) {j : Nat} (hj : refO Z rb v j) : j < W.heap.size := by
  rcases hj with hj | hj | hj
  · exact p.zlt j hj
  · rw [hj]
    exact p.r_.blk.lt
  · exact (ownN_lt p.r_.row hj).2
theorem PlayI.setF (p : PlayI w0 W F h o O Oo Mh Mo Z B rb win v qs) (F' : Nat → Prop) (h1 : ∀ j, F' j → j < W.heap.size) (h2 : ∀ j, F' j → w0.heap.size ≤ j) (h3 : ∀ j, F' j → ¬ O j ∧ ¬ Oo j ∧ ¬ refO Z rb v j) : PlayI w0 W F' h o O Oo Mh Mo Z B rb win v qs :=
  ⟨p.h_, p.o_, p.r_, p.ok, p.zlt, p.bw, p.rnew, p.d1, p.d2, p.d3, h1, h2, h3⟩
theorem PlayI.none (p : PlayI w0 W F h o O Oo Mh Mo Z B rb win v qs) : PlayI w0 W (fun _ => False) h o O Oo Mh Mo Z B rb win v qs := p.setF _ (fun _ f => f.elim) (fun _ f => f.elim) (fun _ f => f.elim)
/-- What is made anew since then lies beside them. -/
theorem PlayI.fresh {W1 : World} (p : PlayI w0 W F h o O Oo Mh Mo Z B rb win v qs) (k : Kept W W1) (F' : Nat → Prop) (h1 : ∀ j, F' j → W.heap.size ≤ j ∧ j < W1.heap.size) : PlayI w0 W1 F' h o O Oo Mh Mo Z B rb win v qs :=
  ⟨p.h_.stay k, p.o_.stay k, p.r_.stay k, p.ok, fun j hj => Nat.lt_of_lt_of_le (p.zlt j hj) k.size, Nat.le_trans p.bw k.size, p.rnew, p.d1, p.d2, p.d3, fun j hj => (h1 j hj).2, fun j hj => Nat.le_trans p.h_.kept.size (h1 j hj).1, fun j hj => by
    have h2 := (h1 j hj).1
    exact ⟨fun e => by have := p.h_.at_.lt j e; omega, fun e => by have := p.o_.at_.lt j e; omega, fun e => by have := p.rlt e; omega⟩⟩
theorem PlayI.stay {W1 : World} (p : PlayI w0 W F h o O Oo Mh Mo Z B rb win v qs) (k : Kept W W1) : PlayI w0 W1 F h o O Oo Mh Mo Z B rb win v qs :=
  ⟨p.h_.stay k, p.o_.stay k, p.r_.stay k, p.ok, fun j hj => Nat.lt_of_lt_of_le (p.zlt j hj) k.size, Nat.le_trans p.bw k.size, p.rnew, p.d1, p.d2, p.d3, fun j hj => Nat.lt_of_lt_of_le (p.flt j hj) k.size, p.fnew, p.fd⟩
/-- What is held beside them is written over. -/
theorem PlayI.wipe {W1 : World} {X : Nat → Prop} (p : PlayI w0 W F h o O Oo Mh Mo Z B rb win v qs) (k : Only X W W1) (hX : ∀ j, X j → F j) : PlayI w0 W1 F h o O Oo Mh Mo Z B rb win v qs :=
  ⟨p.h_.only k (fun j hj e => (p.fd j (hX j e)).1 hj) (fun j e => p.fnew j (hX j e)), p.o_.only k (fun j hj e => (p.fd j (hX j e)).2.1 hj) (fun j e => p.fnew j (hX j e)), p.r_.only k (fun j hj e => (p.fd j (hX j e)).2.2 hj), p.ok, fun j hj => Nat.lt_of_lt_of_le (p.zlt j hj) k.size, Nat.le_trans p.bw k.size, p.rnew, p.d1, p.d2, p.d3, fun j hj => Nat.lt_of_lt_of_le (p.flt j hj) k.size, p.fnew, p.fd⟩
theorem PlayI.hwrite {N : Mod} {h' : HeadC} {O' : Nat → Prop} (p : PlayI w0 W F h o O Oo Mh Mo Z B rb win v qs) (hP : WrIn w0 W h O N h' O' w') : PlayI w0 w' F h' o O' Oo N Mo Z B rb win v qs :=
  ⟨hP.in_, p.o_.only hP.only (fun j hj e => p.d1 j e hj) p.h_.new, p.r_.only hP.only p.d2, p.ok, fun j hj => Nat.lt_of_lt_of_le (p.zlt j hj) hP.only.size, Nat.le_trans p.bw hP.only.size, p.rnew, fun j hj e => by
    rcases hP.old j hj with h1 | h1
    · exact p.d1 j h1 e
    · have := p.o_.at_.lt j e
      omega, fun j hj e => by
    rcases hP.old j e with h1 | h1
    · exact p.d2 j hj h1
    · have := p.rlt hj
      omega, p.d3, fun j hj => Nat.lt_of_lt_of_le (p.flt j hj) hP.only.size, p.fnew, fun j hj => ⟨fun e => by
    rcases hP.old j e with h1 | h1
    · exact (p.fd j hj).1 h1
    · have := p.flt j hj
      omega, (p.fd j hj).2.1, (p.fd j hj).2.2⟩⟩
theorem PlayI.owrite {N : Mod} {o' : HeadC} {O' : Nat → Prop} (p : PlayI w0 W F h o O Oo Mh Mo Z B rb win v qs) (hP : WrIn w0 W o Oo N o' O' w') : PlayI w0 w' F h o' O O' Mh N Z B rb win v qs :=
  ⟨p.h_.only hP.only p.d1 p.o_.new, hP.in_, p.r_.only hP.only p.d3, p.ok, fun j hj => Nat.lt_of_lt_of_le (p.zlt j hj) hP.only.size, Nat.le_trans p.bw hP.only.size, p.rnew, fun j hj e => by
    rcases hP.old j e with h1 | h1
    · exact p.d1 j hj h1
    · have := p.h_.at_.lt j hj
      omega, p.d2, fun j hj e => by
    rcases hP.old j e with h1 | h1
    · exact p.d3 j hj h1
    · have := p.rlt hj
      omega, fun j hj => Nat.lt_of_lt_of_le (p.flt j hj) hP.only.size, p.fnew, fun j hj => ⟨(p.fd j hj).1, fun e => by
    rcases hP.old j e with h1 | h1
    · exact (p.fd j hj).2.1 h1
    · have := p.flt j hj
      omega, (p.fd j hj).2.2⟩⟩
theorem PlayI.hcut {N : Mod} {h' : HeadC} (p : PlayI w0 W F h o O Oo Mh Mo Z B rb win v qs) (hA : HeadAt w' h' O) (hI : Is h' N) (hon : Only O W w') : PlayI w0 w' F h' o O Oo N Mo Z B rb win v qs :=
  ⟨⟨hA, hI, p.h_.new, p.h_.kept.trans hon (fun j hj e => by have := p.h_.new j e; omega)⟩, p.o_.only hon (fun j hj e => p.d1 j e hj) p.h_.new, p.r_.only hon p.d2, p.ok, fun j hj => Nat.lt_of_lt_of_le (p.zlt j hj) hon.size, Nat.le_trans p.bw hon.size, p.rnew, p.d1, p.d2, p.d3, fun j hj => Nat.lt_of_lt_of_le (p.flt j hj) hon.size, p.fnew, p.fd⟩
theorem PlayI.ref {Z' : Nat → Prop} {v' : Value} {qs' : List SV} (p : PlayI w0 W F h o O Oo Mh Mo Z B rb win v qs) (hr : RefAt w' Z' B rb win v' qs') (hok : ModOk (qs'.map serV)) (hz : ∀ j, Z' j → Z j ∨ (W.heap.size ≤ j ∧ j < w'.heap.size)) (hv : ∀ j, v'.ownBlock = some j → W.heap.size ≤ j ∧ j < w'.heap.size) (hon : Only (fun j => j = rb) W w') : PlayI w0 w' F h o O Oo Mh Mo Z' B rb win v' qs' := by
  have hrb : ∀ j, j = rb → refO Z rb v j := fun j e => .inr (.inl e)
  have hnew : ∀ j, refO Z' rb v' j → refO Z rb v j ∨ W.heap.size ≤ j := fun j hj => by
    rcases hj with hj | hj | hj
    · rcases hz j hj with h1 | h1
      · exact .inl (.inl h1)
      · exact .inr h1.1
    · exact .inl (.inr (.inl hj))
    · exact .inr (hv j hj).1
  have hw := p.h_.kept.size
  refine ⟨p.h_.only hon (fun j hj e => p.d2 j (hrb j e) hj) (fun j e => p.rnew j (hrb j e)), p.o_.only hon (fun j hj e => p.d3 j (hrb j e) hj) (fun j e => p.rnew j (hrb j e)), hr, hok, fun j hj => ?_, Nat.le_trans p.bw hon.size, fun j hj => ?_, p.d1, fun j hj e => ?_, fun j hj e => ?_, fun j hj => Nat.lt_of_lt_of_le (p.flt j hj) hon.size, p.fnew, fun j hj => ⟨(p.fd j hj).1, (p.fd j hj).2.1, fun e => ?_⟩⟩
  · rcases hz j hj with h1 | h1
    · exact Nat.lt_of_lt_of_le (p.zlt j h1) hon.size
    · exact h1.2
  · rcases hnew j hj with h1 | h1
    · exact p.rnew j h1
    · omega
  · rcases hnew j hj with h1 | h1
    · exact p.d2 j h1 e
    · have := p.h_.at_.lt j e
      omega
  · rcases hnew j hj with h1 | h1
    · exact p.d3 j h1 e
    · have := p.o_.at_.lt j e
      omega
  · rcases hnew j e with h1 | h1
    · exact (p.fd j hj).2.2 h1
    · have := p.flt j hj
      omega
end

/-- Many batches that came in. -/
structure BatIn (w : World) (v : Value) (bs : List (List Row)) : Prop where
  src : ∃ vs : List Value, SrcOf w v vs ∧ vs.length = bs.length ∧ ∀ i (h : i < vs.length) (h2 : i < bs.length), RowsIn w vs[i] bs[i]
  len : bs.length ≤ 1000000000000000
theorem BatIn.len' {w : World} {v : Value} {bs : List (List Row)} (h : BatIn w v bs) : ∃ a c, v = .slice a bs.length c := by
  obtain ⟨vs, h1, h2, h3⟩ := h.src
  obtain ⟨a, c, rfl⟩ := h1.len
  exact ⟨a, c, by rw [h2]⟩
theorem BatIn.cell {w : World} {av : Option Addr} {L c : Nat} {bs : List (List Row)} (h : BatIn w (.slice av L c) bs) (hL : bs.length = L) (i : Nat) (hi : i < L) :
    ∃ b o a' c', av = some ⟨b, o, none⟩ ∧ w.cell? ⟨b, o + i, none⟩ = some (.slice a' (bs[i]'(by omega)).length c') ∧ RowsIn w (.slice a' (bs[i]'(by omega)).length c') (bs[i]'(by omega)) := by
  obtain ⟨vs, h1, h2, h3⟩ := h.src
  have hiv : i < vs.length := by omega
  have hil : i < bs.length := by omega
  have h4 := h3 i hiv hil
  obtain ⟨a', c', hv⟩ := h4.src.len
  rcases h1.shape with ⟨hn, _⟩ | ⟨_, b, o, c2, hv2, hc⟩
  · subst hn
    simp at hiv
  · simp only [Value.slice.injEq] at hv2
    refine ⟨b, o, a', c', hv2.1, ?_, by rw [← hv]; exact h4⟩
    rw [← hv]
    exact hc i _ (List.getElem?_eq_getElem hiv)
theorem RowsIn.stay {w W : World} {v : Value} {rs : List Row} (h : RowsIn w v rs) (k : Kept w W) : RowsIn W v rs := ⟨h.src.stay k, h.came, h.len⟩
theorem BatIn.stay {w W : World} {v : Value} {bs : List (List Row)} (h : BatIn w v bs) (k : Kept w W) : BatIn W v bs := by
  obtain ⟨vs, h1, h2, h3⟩ := h.src
  exact ⟨⟨vs, h1.stay k, h2, fun i a b => (h3 i a b).stay k⟩, h.len⟩
end Go.Proofs.YtnbfbnhiikliaaaGreat.Hd

/-
  Many batches of rows that came in.
-/
namespace Go.Proofs.YtnbfbnhiikliaaaGreat.Hd
open Go.RowKit Go.Proofs.Lys Go.Maps Go.Proofs.YtnbfbnhiikliaaaGreat.N
set_option linter.unusedVariables false
set_option linter.unusedSimpArgs false
section
variable {H : Type} {enc : TypeId × Value → H} {w : World} {spare : Nat → Bool} {held : Bool} {base fuel : Nat}
theorem Tryz.cellsRows : Tryz.prog.cellsOf 26 = 1 := by kernel_rfl
theorem Tryz.byteRows : 1 ≤ Tryz.prog.bytesOf 26 := by decide +kernel
theorem open_cellR {cs : List Value} {x : DataW H × List MemPlace} (h : DataW.trod enc Tryz.prog w base spare held fuel 26 cs = some x) (hz : ∀ n ∈ x.1.weights Tryz.prog 26, n ≤ reachBytes) : ∃ q : Value × List Row, cs = [q.1] ∧ RowsIn w q.1 q.2 := by
  rcases Deep.open_slice Tryz.underlying26 h with ⟨hcs, _⟩ | ⟨a, len, cap, m, n, D, Pl, hcs, _⟩
  · subst hcs
    obtain ⟨l, hl⟩ := open_rows (a0 := none) (len0 := 0) (cap0 := 0) ⟨fuel, by simpa [Value.cells] using h⟩ hz
    exact ⟨(_, l), rfl, hl⟩
  · subst hcs
    obtain ⟨l, hl⟩ := open_rows (a0 := some a) (len0 := len) (cap0 := cap) ⟨fuel, by simpa [Value.cells] using h⟩ hz
    exact ⟨(_, l), rfl, hl⟩
theorem open_bats {a0 : Option Addr} {len0 cap0 : Nat} {x : DataW H × List MemPlace}
    (h : ∃ m, DataW.trod enc Tryz.prog w base spare held m 22 (Value.slice a0 len0 cap0).cells.toList = some x) (hz : ∀ n ∈ x.1.weights Tryz.prog 22, n ≤ reachBytes) : ∃ l : List (List Row), BatIn w (.slice a0 len0 cap0) l := by
  obtain ⟨fuel, hf⟩ := h
  rcases Deep.open_slice Tryz.underlying22 hf with ⟨hcs, _⟩ | ⟨a, len, cap, m, n, D, Pl, hcs, _, hl, hm, hmm, rfl, hx⟩
  · simp [Value.cells] at hcs
    obtain ⟨rfl, rfl, rfl⟩ := hcs
    exact ⟨[], ⟨[], .inl ⟨rfl, rfl⟩, rfl, fun i h => absurd h (by simp)⟩, by simp⟩
  · simp [Value.cells] at hcs
    obtain ⟨rfl, rfl, rfl⟩ := hcs
    have hlm : len0 ≤ m := by rw [hmm]; split <;> omega
    have hr := reachBytes_lt
    have hlen : len0 ≤ reachBytes := by
      have h1 := hz ((len0 + (m - len0)) * Tryz.prog.bytesOf 26) (by simp [DataW.weights, Tryz.underlying22])
      have h2 : (len0 + (m - len0)) * 1 ≤ (len0 + (m - len0)) * Tryz.prog.bytesOf 26 := Nat.mul_le_mul_left _ Tryz.byteRows
      omega
    have hzi : ∀ i, i < len0 → ∀ n ∈ (D i).weights Tryz.prog 26, n ≤ reachBytes := fun i hi n hn => by
      refine hz n ?_
      simp only [DataW.weights, Tryz.underlying22]
      refine List.mem_cons_of_mem _ (List.mem_append_left _ (weights_all (List.mem_map.2 ⟨i, List.mem_range.2 hi, rfl⟩) n hn))
    have each : ∀ i, i < len0 → ∃ q : Value × List Row, w.cell? (a.add i) = some q.1 ∧ RowsIn w q.1 q.2 := by
      intro i hi
      obtain ⟨cs', h1, h2⟩ := hx i (by omega)
      rw [Tryz.cellsRows] at h1
      obtain ⟨_, hlen, hcell⟩ := World.cells?_some h1
      obtain ⟨q, rfl, hq⟩ := open_cellR h2 (hzi i hi)
      have c0 := hcell 0 (by simp)
      rw [Deep.add_add] at c0
      exact ⟨q, by simpa using c0, hq⟩
    have hinh : Inhabited (Value × List Row) := ⟨(.slice none 0 0, [])⟩
    obtain ⟨q, hq⟩ := Deep.choose_lt each
    refine ⟨(List.range len0).map (fun i => (q i).2), ⟨(List.range len0).map (fun i => (q i).1), .inr ⟨a, cap0, by simp, fun j u hu => ?_⟩, by simp, fun i h1 h2 => ?_⟩, by simp; omega⟩
    · have hj : j < len0 := by
        have := (List.getElem?_eq_some_iff.1 hu).1
        simpa using this
      have hu2 : (q j).1 = u := by
        rw [List.getElem?_map, List.getElem?_range hj] at hu
        simpa using hu
      rw [← hu2]
      exact (hq j hj).1
    · have hi : i < len0 := by simpa using h1
      simpa using (hq i hi).2
end
end Go.Proofs.YtnbfbnhiikliaaaGreat.Hd

/-
  Numbers that came in.
-/
namespace Go.Proofs.YtnbfbnhiikliaaaGreat.Hd
open Go Go.RowKit Go.Proofs.Lys Go.Proofs.YtnbfbnhiikliaaaGreat.N
set_option linter.unusedVariables false
section
variable {H : Type} {enc : TypeId × Value → H} {w : World} {spare : Nat → Bool} {held : Bool} {base : Nat}
open Go.ChangeShapes in
theorem open_cuts {a0 : Option Addr} {len0 cap0 : Nat} {x : DataW H × List MemPlace}
    (h : ∃ m, DataW.trod enc Tryz.prog w base spare held m 23 (Value.slice a0 len0 cap0).cells.toList = some x) (hz : ∀ n ∈ x.1.weights Tryz.prog 23, n ≤ reachBytes) : ∃ l : List Int, SrcOf w (.slice a0 len0 cap0) (l.map (Value.int .i64)) ∧ l.length ≤ 1000000000000000 := by
  obtain ⟨fuel, hf⟩ := h
  have hr := reachBytes_lt
  have hsz := slice_sized (v := .slice a0 len0 cap0) Tryz.underlying23 (by decide +kernel) hf hz _ _ _ rfl
  rcases open_ints Tryz.underlying23 Tryz.underlying3 (by kernel_rfl) hf with ⟨hcs, _⟩ | ⟨a, l, c, zs, hcs, _, hl, hm, hz2, _, hcell, hwz⟩
  · simp [Value.cells] at hcs
    obtain ⟨rfl, rfl, rfl⟩ := hcs
    exact ⟨[], .inl ⟨rfl, rfl⟩, by simp⟩
  · simp [Value.cells] at hcs
    obtain ⟨rfl, rfl, rfl⟩ := hcs
    have hzl : len0 ≤ zs.length := by rw [hz2]; split <;> omega
    have hlen : (zs.take len0).length = len0 := by rw [List.length_take]; omega
    refine ⟨zs.take len0, .inr ⟨a, cap0, by rw [List.length_map, hlen], fun j u hu => ?_⟩, by omega⟩
    rw [List.getElem?_map, List.getElem?_take] at hu
    split at hu
    · rw [List.getElem?_eq_getElem (by omega)] at hu
      cases hu
      rw [hcell j (by omega), List.getD_eq_getElem?_getD, List.getElem?_eq_getElem (by omega)]
      rfl
    · cases hu
end
end Go.Proofs.YtnbfbnhiikliaaaGreat.Hd
