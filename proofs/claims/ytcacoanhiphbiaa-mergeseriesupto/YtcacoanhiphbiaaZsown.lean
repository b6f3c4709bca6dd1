/-
  Series that are read; series in rows of their own.
-/
import Derived.Test.YtcacoanhiphbiaaZsh
import Derived.Test.YtcacoanhiphbiaaZcopied
import Derived.Lib.Walk
namespace Go.Proofs.Ytcacoanhiphbiaa.Ms
open Go Go.RowKit Go.Proofs.Lys Go.Maps
open Go.Proofs.Ytcacoanhiphbiaa.N (Labs LabAt LabSrc lab_append)
set_option linter.unusedVariables false
set_option linter.unusedSimpArgs false

abbrev Ser := N.Labs × Mg.Smps
/-- Series that are read. -/
def SerIn (w : World) (v : Value) (l : List Ser) : Prop :=
  (∃ a c, v = .slice a 0 c ∧ l = []) ∨ (0 < l.length ∧ ∃ b o c, v = .slice (some ⟨b, o, none⟩) l.length c ∧ ∀ i (hi : i < l.length), ∃ lv sv, w.cell? ⟨b, o + i * 2, none⟩ = some lv ∧ w.cell? ⟨b, o + i * 2 + 1, none⟩ = some sv ∧ N.LabSrc w lv l[i].1 ∧ Mg.SSrc w sv l[i].2)
theorem cell_kept {w W : World} (k : Kept w W) {a : Addr} {v : Value} (h : w.cell? a = some v) : W.cell? a = some v := by
  rw [World.cell?_of_block (k.block _ (World.block_lt_of_cell? w _ h) (fun f => f))]
  exact h
theorem SerIn.stay {w W : World} {v : Value} {l : List Ser} (h : SerIn w v l) (k : Kept w W) : SerIn W v l := by
  rcases h with h | ⟨h0, b, o, c, e, hc⟩
  · exact .inl h
  · refine .inr ⟨h0, b, o, c, e, fun i hi => ?_⟩
    obtain ⟨lv, sv, c1, c2, h1, h2⟩ := hc i hi
    exact ⟨lv, sv, cell_kept k c1, cell_kept k c2, h1.stay k, h2.stay k⟩
theorem SerIn.len {w : World} {v : Value} {l : List Ser} (h : SerIn w v l) : ∃ a c, v = .slice a l.length c := by
  rcases h with ⟨a, c, e, h0⟩ | ⟨_, b, o, c, e, _⟩
  · exact ⟨a, c, by rw [h0]; exact e⟩
  · exact ⟨_, c, e⟩
theorem SerIn.cell {w : World} {a : Option Addr} {n c : Nat} {l : List Ser} (h : SerIn w (.slice a n c) l) (hn : l.length = n) (k : Nat) (hk : k < n) :
    ∃ b o la lc sa sc, a = some ⟨b, o, none⟩ ∧ w.cell? ⟨b, o + k * 2, none⟩ = some (.slice la (l[k]'(by omega)).1.length lc) ∧ w.cell? ⟨b, o + k * 2 + 1, none⟩ = some (.slice sa (l[k]'(by omega)).2.length sc) ∧ N.LabSrc w (.slice la (l[k]'(by omega)).1.length lc) (l[k]'(by omega)).1 ∧ Mg.SSrc w (.slice sa (l[k]'(by omega)).2.length sc) (l[k]'(by omega)).2 := by
  rcases h with ⟨a', c', e, h0⟩ | ⟨_, b, o, c', e, hc⟩
  · subst h0
    simp at hn
    omega
  · simp only [Value.slice.injEq] at e
    obtain ⟨lv, sv, c1, c2, h1, h2⟩ := hc k (by omega)
    obtain ⟨la, lc, rfl⟩ := h1.len
    obtain ⟨sa, sc, rfl, _⟩ := id h2.2
    exact ⟨b, o, la, lc, sa, sc, e.1, c1, c2, h1, h2⟩
/-- A series in memory: its two cells, and what they hold. -/
structure SV where
  lv : Value
  sv : Value
  labs : Labs
  smps : Mg.Smps
def SV.has (x : SV) (k : Nat) : Prop := x.lv.ownBlock = some k ∨ x.sv.ownBlock = some k
def SV.ser (x : SV) : Ser := (x.labs, x.smps)
def svL : List SV → List Value
  | [] => []
  | x :: r => x.lv :: x.sv :: svL r
theorem svL_len (l : List SV) : (svL l).length = l.length * 2 := by
  induction l with
  | nil => rfl
  | cons p r ih => rw [svL, List.length_cons, List.length_cons, ih, List.length_cons]; omega
theorem svL_app (l r : List SV) : svL (l ++ r) = svL l ++ svL r := by
  induction l with
  | nil => rfl
  | cons p l ih => rw [List.cons_append, svL, ih, svL]; rfl
theorem svL_at (l : List SV) (i : Nat) (h : i < l.length) : (svL l)[i * 2]? = some l[i].lv ∧ (svL l)[i * 2 + 1]? = some l[i].sv := by
  induction l generalizing i with
  | nil => simp at h
  | cons p r ih =>
    cases i with
    | zero => exact ⟨rfl, rfl⟩
    | succ i =>
      have := ih i (by simpa using h)
      rw [show (i + 1) * 2 = i * 2 + 2 by omega]
      exact this
theorem Try.infoSerM : (Try.prog.info? 29).map (fun i => (i.zero, i.size, i.bytes)) = some (some (.agg #[.slice none 0 0, .slice none 0 0]), 2, 48) := by kernel_rfl
/-- Series that lie in blocks of their own, from B on. -/
structure SerAt (w : World) (B : Nat) (v : Value) (xs : List SV) : Prop where
  row : w.ownsRow B 29 2 v xs.length (svL xs)
  lab : ∀ x ∈ xs, LabAt w B x.lv x.labs
  smp : ∀ x ∈ xs, SmpAt w B x.sv x.smps
  apart : xs.Pairwise (fun a b => ∀ k, a.has k → ¬ b.has k)
theorem SerAt.only {w w' : World} {B : Nat} {v : Value} {xs : List SV} {O : Nat → Prop} (h : SerAt w B v xs) (k : Only O w w') (hO : ∀ j, B ≤ j → j < w.heap.size → ¬ O j) : SerAt w' B v xs :=
  ⟨ownN_only h.row k (fun b hb => hO b (ownN_lt h.row hb).1 (ownN_lt h.row hb).2), fun x hx => ownN_only (h.lab x hx) k (fun b hb => hO b (ownN_lt (h.lab x hx) hb).1 (ownN_lt (h.lab x hx) hb).2), fun x hx => ownN_only (h.smp x hx) k (fun b hb => hO b (ownN_lt (h.smp x hx) hb).1 (ownN_lt (h.smp x hx) hb).2), h.apart⟩
theorem SerAt.stay {w w' : World} {B : Nat} {v : Value} {xs : List SV} (h : SerAt w B v xs) (k : Kept w w') : SerAt w' B v xs := h.only k (fun _ _ _ f => f)
theorem SerAt.nil (w : World) (B : Nat) : SerAt w B (.slice none 0 0) [] := ⟨World.ownsRow_nil _ _ _ _, (fun x hx => by cases hx), (fun x hx => by cases hx), .nil⟩
theorem SerAt.base {w : World} {B B' : Nat} {v : Value} {xs : List SV} (h : SerAt w B v xs) (hb : B' ≤ B) : SerAt w B' v xs :=
  ⟨ownN_base h.row hb, fun x hx => ownN_base (h.lab x hx) hb, fun x hx => ownN_base (h.smp x hx) hb, h.apart⟩
theorem serL_app {w : World} {B : Nat} {v : Value} {xs : List SV} (hown : SerAt w B v xs) (hB : B ≤ w.heap.size) (hl : xs.length ≤ 10000000) (x : SV) (hlab : LabAt w B x.lv x.labs) (hsmp : SmpAt w B x.sv x.smps) (hap : ∀ y ∈ xs, ∀ k, y.has k → ¬ x.has k) :
    ∃ v' w', Hid ((Builtin.append_ #[25, 25] 0 #[v, .slice (some ⟨w.heap.size, 0, none⟩) 1 1]).run Try.prog (w.alloc (.cells #[x.lv, x.sv] 29)) = .ok v' w') ∧ SerAt w' B v' (xs ++ [x]) ∧ Only (fun k => v.ownBlock = some k) w w' := by
  obtain ⟨i0, hi0, hz0, hz1, hz2⟩ := info_parts Try.infoSerM
  have k1 : Kept w (w.alloc (.cells #[x.lv, x.sv] 29)) := (Only.refl _ w).alloc _
  have hb := Blk.new w [x.lv, x.sv] 29
  have h1 : ∀ u ∈ [x.lv, x.sv], u.oneCell' = true := by
    intro u hu
    simp at hu
    rcases hu with rfl | rfl
    · obtain ⟨a, c, e⟩ := ownN_slice hlab
      rw [e]; rfl
    · obtain ⟨a, c, e⟩ := ownN_slice hsmp
      rw [e]; rfl
  obtain ⟨v', w', hr, h2, h3, _, h5⟩ := run_append_own_at (P := Try.prog) (w.alloc (.cells #[x.lv, x.sv] 29)) B _ 0 _ i0 _ 2 48 Try.underlying25 hi0 hz0 hz1 hz2 rfl (by decide) v xs.length (svL xs) (ownN_stay hown.row k1) ⟨w.heap.size, 0, none⟩ 1 1 [x.lv, x.sv] rfl
      (fun j u hu => by rw [add_none, Nat.zero_add]; exact hb.cell j hu) h1 (by unfold maxLen; omega) (by omega) (by have := k1.size; omega)
  have kk : Only (fun k => v.ownBlock = some k) w w' := (k1.mono (fun _ _ f => f.elim)).grown h3 (fun k e _ => e)
  have hne : ∀ {T : TypeId} {j : Nat}, T ≠ 29 → Typed w j T → ¬ v.ownBlock = some j := fun hT hj e => hj.ne (ownN_typed hown.row e) hT rfl
  refine ⟨v', w', hr, ⟨?_, fun y hy => ?_, fun y hy => ?_, ?_⟩, kk⟩
  · rw [List.length_append, svL_app]
    exact h2
  · rcases List.mem_append.1 hy with hy | hy
    · exact ownN_only (hown.lab y hy) kk (fun b hb => hne (by decide) (ownN_typed (hown.lab y hy) hb))
    · rw [List.mem_singleton.1 hy]
      exact ownN_only hlab kk (fun b hb => hne (by decide) (ownN_typed hlab hb))
  · rcases List.mem_append.1 hy with hy | hy
    · exact ownN_only (hown.smp y hy) kk (fun b hb => hne (by decide) (ownN_typed (hown.smp y hy) hb))
    · rw [List.mem_singleton.1 hy]
      exact ownN_only hsmp kk (fun b hb => hne (by decide) (ownN_typed hsmp hb))
  · refine List.pairwise_append.2 ⟨hown.apart, List.pairwise_singleton _ _, fun a ha b hb => ?_⟩
    rw [List.mem_singleton.1 hb]
    exact hap a ha
/-- They are read as series. -/
theorem SerAt.serIn {w : World} {B : Nat} {v : Value} {xs : List SV} (h : SerAt w B v xs) : SerIn w v (xs.map SV.ser) := by
  by_cases h0 : xs.length = 0
  · have : xs = [] := List.length_eq_zero_iff.1 h0
    subst this
    obtain ⟨a, c, e⟩ := ownN_slice h.row
    exact .inl ⟨a, c, e, rfl⟩
  · obtain ⟨g, cap, rfl⟩ := ownN_some h.row (by omega)
    refine .inr ⟨by rw [List.length_map]; omega, g, 0, cap, by rw [List.length_map], fun i hi => ?_⟩
    rw [List.length_map] at hi
    have hx := svL_at xs i hi
    simp only [List.getElem_map, Nat.zero_add]
    refine ⟨_, _, by rw [h.row.cellAt (i * 2) (by omega)]; exact hx.1, by rw [h.row.cellAt (i * 2 + 1) (by omega)]; exact hx.2, (h.lab _ (List.getElem_mem hi)).src, SmpAt.src (h.smp _ (List.getElem_mem hi)), ?_⟩
    have hs := h.smp _ (List.getElem_mem hi)
    rcases hs.2 with ⟨e, h1⟩ | ⟨g', cap', cur, e, _, _, hcap, _⟩
    · exact ⟨none, 0, by rw [e]; show Value.slice none 0 0 = .slice none (xs[i].smps).length 0; rw [h1], by show (xs[i].smps).length ≤ 0; omega⟩
    · exact ⟨_, cap', e, hcap⟩
theorem lclone_any (w : World) (v : Value) (l : Labs) (hs : LabSrc w v l) (hl : l.length ≤ 100000) :
    Calls Try.prog 17 #[v] w fun e w' => ∃ v', e = .returned v' ∧ LabAt w' w.heap.size v' l ∧ Kept w w' := by
  have he : ∀ (x : Option Addr) (n k : Nat) (w : World), (Go.binOp .eql 26 (.slice x n k) (.slice none 0 0)).run Try.prog w = .ok (.bool x.isNone) w := fun x n k w => Lib.run_eql_slice_nil w _ _ x n k 0 0 Try.underlying26
  obtain ⟨a, c, rfl⟩ := hs.len
  cases a with
  | none =>
    have hl0 : l = [] := by
      rcases hs with ⟨a, c, e, h⟩ | ⟨h0, b, o, c, e, _⟩
      · exact h
      · cases e
    subst hl0
    clear hs
    go_enter Try.func17, Try.ntmps17
    go_wp2
    go_ret
    exact ⟨_, rfl, World.ownsRow_nil _ _ _ _, Only.refl _ _⟩
  | some a =>
    have hb : ∀ w : World, (Instr.buildSlice 26 0 #[]).run Try.prog w = .ok (.slice (some ⟨w.heap.size, 0, none⟩) 0 0) (w.alloc (.cells #[] 45)) := fun w => by kernel_rfl
    have h0 : LabAt (w.alloc (.cells #[] 45)) w.heap.size (.slice (some ⟨w.heap.size, 0, none⟩) 0 0) [] := World.ownsRow_lit w #[] 0 (Nat.le_refl _) (by decide) rfl
    have k0 : Kept w (w.alloc (.cells #[] 45)) := (Only.refl _ w).alloc _
    obtain ⟨v', w', hr, h1, h2, h3⟩ := lab_append h0 (hs.stay k0) (by simp; omega) (by simp)
    rw [List.nil_append] at h1
    have HR := hid hr
    have HF := hid (show LabAt w' w.heap.size v' l ∧ Kept w w' from ⟨h1, k0.grown h2 (fun j hj => by simp [Value.ownBlock] at hj; intro hlt; omega)⟩)
    clear hs h1 h2 h3 hr h0 k0
    generalize l.length = n at HR ⊢
    go_enter Try.func17, Try.ntmps17
    go_wp2_with (at_builtin; refine Lys.wpList_append_run rfl _ _ _ rfl rfl rfl HR ?_)
    go_ret
    exact ⟨_, rfl, HF.out⟩
end Go.Proofs.Ytcacoanhiphbiaa.Ms
