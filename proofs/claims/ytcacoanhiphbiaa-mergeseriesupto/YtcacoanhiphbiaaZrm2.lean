/-
  The document's own MergeSeries: a series is put between others; what its steps make.
-/
import Derived.Test.YtcacoanhiphbiaaZrm1
import Derived.Test.YtcacoanhiphbiaaZsw
namespace Go.Proofs.Ytcacoanhiphbiaa.Ms
open Go Go.RowKit Go.Proofs.Lys Go.Maps
open Go.Proofs.Ytcacoanhiphbiaa.N (Labs LabAt LabSrc cmpL)
set_option linter.unusedVariables false
set_option linter.unusedSimpArgs false

theorem oper_appendH {P : Program} {w : World} {o : Oper} {a : Act} {K : Act → World → Prop} {Q : Exit → Act → World → Prop} (s x : Operand) (t : TypeId)
    (ho : o.op = .call { callee := .builtin .append, args := #[s, x], argTypes := #[t, t] }) {sv xv : Value} (hs : a.eval s = sv) (hx : a.eval x = xv) {v : Value} {w' : World}
    (hrun : Hid ((Builtin.append_ #[t, t] 0 #[sv, xv]).run P w = .ok v w')) (h : K (a.put o.dst v) w') : Oper.wp P o a w K Q := by
  have hr : (Builtin.append_ #[t, t] o.type #[sv, xv]).run P w = .ok v w' := hrun.out
  unfold Oper.wp execOp
  simp only [ho, resolve, invoke, builtin, Sem.run_bind, Sem.run_pure, Result.andThen_ok, List.map_toArray, List.map_cons, List.map_nil, hs, hx, hr]
  exact h
theorem wpList_sliceF_run {P : Program} {w : World} {ops : Array Oper} {rest : List Oper} {o : Oper} {a : Act} {Q : Exit → Act → World → Prop} (hgd : o.guard = none) (t : TypeId) (s x : Operand)
    (ho : o.op = Op.slice t s (some x) none none) {sv xv : Value} (hs : a.eval s = sv) (hx : a.eval x = xv) {v : Value}
    (hrun : Hid (∀ W, (Instr.sliceAt t sv (some xv) none none).run P W = .ok v W)) (h : wpList P ops Q rest (a.put o.dst v) w) : wpList P ops Q (o :: rest) a w := by
  refine wpList_plain hgd fun K hK => ?_
  have hr := hrun.out w
  unfold Oper.wp
  simp [execOp, ho, hs, hx, hr, Result.andThen]
  exact hK _ _ h
/-- The document's own Merge of one list. -/
theorem rmerge1 (w : World) (v1 : Value) (l1 : Mg.Smps) (b : Nat) (hb : Blk w b [v1] 27) (h1 : Mg.SSrc w v1 l1) (hl : l1.length ≤ 100000) :
    Calls Try.prog 21 #[.slice (some ⟨b, 0, none⟩) 1 1] w (Mg.RngP w (Mg.mrg l1)) := by
  have hs : Mg.LLSrc w (.slice (some ⟨b, 0, none⟩) 1 1) [v1] [l1] := by
    refine ⟨.inr ⟨⟨b, 0, none⟩, 1, rfl, fun j u hu => by rw [add_none, Nat.zero_add]; exact hb.cell j hu⟩, rfl, fun i hi hi' => ?_⟩
    match i, hi with
    | 0, _ => exact h1
  have hf : ([l1] : List Mg.Smps).flatten = l1 := by simp
  have h := Mg.rmerge_any w _ _ _ hs (by rw [hf]; exact hl) (by show 1 ≤ 100000; decide)
  rw [hf] at h
  exact h
/-- The new series. -/
structure NewS (w9 : World) (labs : Labs) (m : Mg.Smps) (nb : Nat) (lv sv : Value) (W : World) : Prop where
  kept : Kept w9 W
  blk : Blk W nb [lv, sv] 29
  lab : LabAt W w9.heap.size lv labs
  smp : SmpAt W w9.heap.size sv m
theorem new_end {w9 W : World} {nb : Nat} {labs : Labs} {m : Mg.Smps} {lv sv a b : Value} (k : Kept w9 W) (hN : Blk W nb [a, b] 29) (hnb : w9.heap.size ≤ nb) (hl : LabAt W w9.heap.size lv labs) (hs : SmpAt W w9.heap.size sv m) :
    NewS w9 labs m nb lv sv ((W.setCell ⟨nb, 0, none⟩ lv).setCell ⟨nb, 1, none⟩ sv) := by
  have hO : Only (fun j => j = nb) W ((W.setCell ⟨nb, 0, none⟩ lv).setCell ⟨nb, 1, none⟩ sv) := ((Only.refl (fun j => j = nb) W).setCell (p := ⟨nb, 0, none⟩) (fun _ => rfl) _).setCell (p := ⟨nb, 1, none⟩) (fun _ => rfl) _
  refine ⟨(k.setCell (p := ⟨nb, 0, none⟩) (fun h => ?_) _).setCell (p := ⟨nb, 1, none⟩) (fun h => ?_) _, (hN.set 0 lv).set 1 sv, ?_, ?_⟩
  · have h1 : nb < w9.heap.size := h
    omega
  · have h1 : nb < w9.heap.size := h
    omega
  · exact N.ownN_only hl hO (fun b hb e => (Typed.ne (N.ownN_typed hl hb) hN.typed (by decide)) e)
  · exact ownN_only hs hO (fun b hb e => (Typed.ne (ownN_typed hs hb) hN.typed (by decide)) e)
/-- The label's copy. -/
theorem lab_more {w9 : World} {xv : Value} {labs : Labs} {ln : Nat} (hn : labs.length = ln) (hs : LabSrc w9 xv labs) (hl : labs.length ≤ 100000) :
    ∀ W, Kept w9 W → ∃ a c W', Hid ((Builtin.append_ #[26, 26] 0 #[.slice none 0 0, xv]).run Try.prog W = .ok (.slice a ln c) W') ∧ LabAt W' w9.heap.size (.slice a ln c) labs ∧ Kept W W' := by
  subst hn
  intro W k
  obtain ⟨a, c, W', h1, h2, h3⟩ := N.lab_copy (hs.stay k) hl
  exact ⟨a, c, W', h1, N.ownN_base h2 k.size, h3⟩
theorem smp_more {w9 : World} {xv : Value} {l m : Mg.Smps} {SL : Nat} (hm : Mg.mrg l = m) (hn : m.length = SL) (hs : Mg.SSrc w9 xv l) (hl : l.length ≤ 100000) :
    ∀ W pb, Kept w9 W → Blk W pb [xv] 27 → Calls Try.prog 21 #[.slice (some ⟨pb, 0, none⟩) 1 1] W fun e W' => ∃ a c, e = .returned (.slice a SL c) ∧ SmpAt W' w9.heap.size (.slice a SL c) m ∧ Kept W W' := by
  subst hm hn
  intro W pb k hb
  refine (rmerge1 W xv l pb hb (hs.stay k) hl).mono ?_
  rintro e W' ⟨v, rfl, h1, k1⟩
  obtain ⟨a, c, rfl⟩ := ownN_slice h1
  exact ⟨a, c, rfl, ownN_base h1 k.size, k1⟩
/-- A region whose ways meet again: what it leaves is told once. -/
theorem wp_region_thenM {P : Program} {id : Nat} {ops : Array Oper} {b : Bool} {Q : Exit → Act → World → Prop} {a : Act} {w : World} {A : Nat → Nat → Option Addr → Nat → Option Addr → Nat → Act} (D : Nat → Option Addr → Nat → Option Addr → Nat → World → Prop)
    (h1 : (Code.region id ops b).wp P (fun e a' w' => e = .normal ∧ ∃ pb nb qa qc ma mc, a' = A pb nb qa qc ma mc ∧ D nb qa qc ma mc w') a w) (h2 : ∀ pb nb qa qc ma mc w', D nb qa qc ma mc w' → Q .normal (A pb nb qa qc ma mc) w') : (Code.region id ops b).wp P Q a w :=
  Code.wp_mono (fun e a' w' h => by obtain ⟨rfl, pb, nb, qa, qc, ma, mc, rfl, hD⟩ := h; exact h2 pb nb qa qc ma mc w' hD) h1
/-- The three rows, joined. -/
theorem put_rows {W : World} {u : Value} {qs : List SV} {pa : Option Addr} {t nb : Nat} {lv sv : Value} {labs : Labs} {m : Mg.Smps} (ht : t ≤ qs.length) (hq : qs.length ≤ 90000) (hpl : SvPlain qs) (hct : SvCells W (.slice pa t t) (qs.take t)) (hcd : SvCells W u (qs.drop t)) (hx : Blk W nb [lv, sv] 29) :
    ∃ c W', Hid ((Builtin.append_ #[25, 25] 0 #[.slice pa t t, .slice (some ⟨nb, 0, none⟩) 1 1]).run Try.prog W = .ok (.slice (some ⟨W.heap.size, 0, none⟩) (t + 1) c) W') ∧ Kept W W' ∧
      ∃ v W2, Hid ((Builtin.append_ #[25, 25] 0 #[.slice (some ⟨W.heap.size, 0, none⟩) (t + 1) c, u]).run Try.prog W' = .ok v W2) ∧ Kept W W2 ∧ W2.ownsRow W.heap.size 29 2 v (qs.take t ++ [(⟨lv, sv, labs, m⟩ : SV)] ++ qs.drop t).length (svL (qs.take t ++ [(⟨lv, sv, labs, m⟩ : SV)] ++ qs.drop t)) := by
  have hlt : (qs.take t).length = t := by rw [List.length_take]; omega
  obtain ⟨c, W', h1, h2, h3⟩ := sv_full (x := ⟨lv, sv, labs, m⟩) hct hlt (by omega) hx
  refine ⟨c, W', h1, h3, ?_⟩
  have hl2 : (qs.take t ++ [(⟨lv, sv, labs, m⟩ : SV)]).length = t + 1 := by rw [List.length_append, hlt]; rfl
  obtain ⟨v, W2, h4, h5, h6, h7⟩ := sv_append (q := qs.drop t) h2 (hcd.stay h3) (fun q hq => hpl q (List.mem_of_mem_drop hq)) (by rw [hl2, List.length_drop]; omega) h3.size
  refine ⟨v, W2, h4, ?_, h5⟩
  have hO := (Only.refl (fun j => j = W.heap.size) W').grown h6 (fun j hj _ => by cases hj; rfl)
  exact h3.trans hO (fun j hj e => by omega)
end Go.Proofs.Ytcacoanhiphbiaa.Ms
