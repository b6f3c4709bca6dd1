/-
  The law MergeSamples: whether lists are too much; lists in new memory.
-/
import Derived.Test.YtcacoanhiphbiaaZlaw
namespace Go.Proofs.Ytcacoanhiphbiaa.Mg
open Go Go.RowKit Go.Proofs.Lys
set_option linter.unusedVariables false
set_option linter.unusedSimpArgs false

theorem Try.infoSS : (Try.prog.info? 27).map (fun i => (i.zero, i.size, i.bytes)) = some (some (.slice none 0 0), 1, 24) := by kernel_rfl
/-- A row of slices grows. -/
theorem own_sl {w : World} {base : Nat} {v : Value} {xs : List Value} {n : Nat} (h : w.ownsRow base 27 1 v n xs) (hn : xs.length = n) (hb : base ≤ w.heap.size) (hl : n ≤ 100000) (a : Option Addr) (m c : Nat) :
    ∃ g cap w1, Hid ((Builtin.append_ #[37, 37] 0 #[v, .slice (some ⟨w.heap.size, 0, none⟩) 1 1]).run Try.prog (w.alloc (.cells #[.slice a m c] 27)) = .ok (.slice (some ⟨g, 0, none⟩) (n + 1) cap) w1) ∧
      w1.ownsRow base 27 1 (.slice (some ⟨g, 0, none⟩) (n + 1) cap) (n + 1) (xs ++ [.slice a m c]) ∧ Only (fun j => v.ownBlock = some j) w w1 := by
  obtain ⟨v', w3, hrun, hown1, hgrow, hat⟩ := append_src (P := Try.prog) (xv := .slice (some ⟨w.heap.size, 0, none⟩) 1 1) (ys := [.slice a m c]) Try.underlying37 Try.infoSS rfl (by decide) (h.alloc (.cells #[.slice a m c] 27)) (own_src (World.ownsRow_lit w #[.slice a m c] 1 (Nat.zero_le _) (by decide) rfl)) (by intro u hu; simp at hu; subst hu; rfl) (by simp; omega) (by simp; omega)
  obtain ⟨g, cap, rfl⟩ := own_some hown1 (by simp)
  exact ⟨g, cap, w3, hrun, hown1, ((Only.refl _ w).alloc _).grown hgrow (fun j hj _ => hj)⟩
/-- Copies that lie in new memory, each in a row of its own. -/
structure Cps (w0 w : World) (u : Value) (i : Nat) (vs : List Value) (ls : List Smps) : Prop where
  row : w.ownsRow w0.heap.size 27 1 u i vs
  len : vs.length = i
  each : ∀ j (h : j < vs.length) (h' : j < ls.length), SmpAt w w0.heap.size vs[j] ls[j]
theorem Cps.kept {w0 w w' : World} {u : Value} {i : Nat} {vs : List Value} {ls : List Smps} (h : Cps w0 w u i vs ls) (k : Kept w w') : Cps w0 w' u i vs ls :=
  ⟨ownN_stay h.row k, h.len, fun j a b => ownN_stay (h.each j a b) k⟩
theorem Cps.step {w0 w w2 : World} {u : Value} {i : Nat} {vs : List Value} {ls : List Smps} {x : Value} (h : Cps w0 w u i vs ls) (k0 : Kept w0 w) (hi : i < ls.length) (k : Kept w w2) (hx : SmpAt w2 w.heap.size x ls[i]) (hl : i ≤ 100000) :
    ∃ a m c g cap w1, x = .slice a m c ∧ m = ls[i].length ∧ Hid ((Builtin.append_ #[37, 37] 0 #[u, .slice (some ⟨w2.heap.size, 0, none⟩) 1 1]).run Try.prog (w2.alloc (.cells #[.slice a m c] 27)) = .ok (.slice (some ⟨g, 0, none⟩) (i + 1) cap) w1) ∧
      Cps w0 w1 (.slice (some ⟨g, 0, none⟩) (i + 1) cap) (i + 1) (vs ++ [x]) ls ∧ Kept w0 w1 := by
  have h2 := h.kept k
  obtain ⟨a, c, rfl⟩ := ownN_slice hx
  have hlow : ∀ j, u.ownBlock = some j → w0.heap.size ≤ j := fun j hj => (ownN_lt h.row hj).1
  obtain ⟨g, cap, w1, hr, ho, hon⟩ := own_sl h2.row h2.len (Nat.le_trans k0.size k.size) hl a (ls[i].length) c
  have hne : ∀ j (e : u.ownBlock = some j), Typed w2 j 27 := fun j e => ownN_typed h2.row e
  refine ⟨a, _, c, g, cap, w1, rfl, rfl, hr, ⟨ho, by rw [List.length_append, h.len]; rfl, fun j h1 h3 => ?_⟩, (k0.trans k (fun _ _ f => f)).trans hon (fun j hj e => by have := hlow j e; omega)⟩
  by_cases e : j < vs.length
  · rw [List.getElem_append_left e]
    exact ownN_only (h2.each j e h3) hon (fun b hb hu => (ownN_typed (h2.each j e h3) hb).ne (hne b hu) (by decide) rfl)
  · have hj : j = vs.length := by rw [List.length_append, List.length_cons, List.length_nil] at h1; omega
    subst hj
    have hx3 : SmpAt w2 w0.heap.size (.slice a ls[i].length c) ls[i] := ownN_base hx k0.size
    have he : ls[vs.length] = ls[i] := by simp only [h.len]
    simp only [List.getElem_concat_length]
    rw [he]
    exact ownN_only hx3 hon (fun b hb hu => (ownN_typed hx3 hb).ne (hne b hu) (by decide) rfl)
theorem Cps.src {w0 w : World} {u : Value} {vs : List Value} {ls : List Smps} (h : Cps w0 w u ls.length vs ls) : LLSrc w u vs ls :=
  ⟨own_src h.row, h.len, fun i h1 h2 => smpAt_ssrc (h.each i h2 h1)⟩
theorem ll_cell {w : World} {a : Option Addr} {M c : Nat} {vs : List Value} {ls : List Smps} (h : LLSrc w (.slice a M c) vs ls) (hM : ls.length = M) (k : Nat) (hk : k < M) : ∃ b o a1 c1, a = some ⟨b, o, none⟩ ∧ w.cell? ⟨b, o + k, none⟩ = some (.slice a1 (ls[k]'(by omega)).length c1) ∧ SSrc w (.slice a1 (ls[k]'(by omega)).length c1) (ls[k]'(by omega)) := by
  have hv : vs.length = M := h.len.trans hM
  have he := h.each k (by omega) (by omega)
  obtain ⟨a1, c1, e1, hc1⟩ := he.2
  rcases h.src.shape with ⟨hnil, _⟩ | ⟨hpos, b, o, c', e, hcc⟩
  · rw [hnil] at hv; simp at hv; omega
  · simp only [Value.slice.injEq] at e
    refine ⟨b, o, a1, c1, e.1, ?_, by rw [← e1]; exact he⟩
    rw [← e1]
    exact hcc k _ (List.getElem?_eq_getElem (by omega))
end Go.Proofs.Ytcacoanhiphbiaa.Mg
