/-
  The document's own disk: drop.
-/
import Derived.Test.YtpjedcfdchebgaaEent
namespace Go.Proofs.Ytpjedcfdchebgaa
open Go.RowKit Go.Proofs.Lys Go.Maps Go.Shelf
set_option linter.unusedVariables false

theorem Try.infoE : (Try.prog.info? 82).map (fun i => (i.zero, i.size, i.bytes)) = some (some (.agg #[.string ⟨#[]⟩, .int .i64 0]), 2, 24) := by kernel_rfl

theorem entL_one (l : DDir) : ∀ u ∈ entL l, u.oneCell' = true := by
  induction l with
  | nil => intro u hu; cases hu
  | cons p r ih =>
    intro u hu
    rw [entL] at hu
    simp only [List.mem_cons] at hu
    rcases hu with rfl | rfl | hu
    · rfl
    · rfl
    · exact ih u hu

section
variable {w w' : World} {base : Nat} {e : TypeId} {z : Nat} {v : Value} {n : Nat} {xs : List Value}
theorem ownN_slice (h : w.ownsRow base e z v n xs) : ∃ a cap, v = .slice a n cap := by
  rcases h.2 with ⟨rfl, rfl⟩ | ⟨g, cap, cur, rfl, _⟩
  · exact ⟨none, 0, rfl⟩
  · exact ⟨_, cap, rfl⟩
theorem ownN_some (h : w.ownsRow base e z v n xs) (h0 : 0 < n) : ∃ g cap, v = .slice (some ⟨g, 0, none⟩) n cap := by
  rcases h.2 with ⟨rfl, rfl⟩ | ⟨g, cap, cur, rfl, _⟩
  · omega
  · exact ⟨g, cap, rfl⟩
theorem ownN_block (h : w.ownsRow base e z v n xs) (hk : ∀ k, v.ownBlock = some k → w'.heap[k]? = w.heap[k]?) : w'.ownsRow base e z v n xs := by
  rcases h with ⟨hl, hn | ⟨g, cap, cur, rfl, hb, hg, rest⟩⟩
  · exact ⟨hl, .inl hn⟩
  · exact ⟨hl, .inr ⟨g, cap, cur, rfl, hb, (hk g rfl).trans hg, rest⟩⟩
theorem ownN_typed (h : w.ownsRow base e z v n xs) {k : Nat} (hk : v.ownBlock = some k) : Typed w k e := by
  rcases h.2 with ⟨rfl, _⟩ | ⟨g, cap, cur, rfl, hb, hg, _⟩
  · cases hk
  · have : g = k := by simpa [Value.ownBlock] using hk
    subst this
    exact ⟨_, _, hg⟩
theorem ownN_lt (h : w.ownsRow base e z v n xs) {k : Nat} (hk : v.ownBlock = some k) : base ≤ k ∧ k < w.heap.size := by
  rcases h.2 with ⟨rfl, _⟩ | ⟨g, cap, cur, rfl, hb, hg, _⟩
  · cases hk
  · have : g = k := by simpa [Value.ownBlock] using hk
    subst this
    exact ⟨hb, (Array.getElem?_eq_some_iff.1 hg).1⟩
theorem ownN_only {O : Nat → Prop} (h : w.ownsRow base e z v n xs) (k : Only O w w') (hO : ∀ b, v.ownBlock = some b → ¬ O b) : w'.ownsRow base e z v n xs :=
  ownN_block h (fun b hb => k.block b ((ownN_lt h hb).2) (hO b hb))
theorem ownN_stay (h : w.ownsRow base e z v n xs) (k : Kept w w') : w'.ownsRow base e z v n xs := ownN_only h k (fun _ _ f => f)
theorem ownN_base (h : w.ownsRow base e z v n xs) {b' : Nat} (hb : b' ≤ base) : w.ownsRow b' e z v n xs := by
  rcases h with ⟨hl, hn | ⟨g, cap, cur, rfl, hb', hg, rest⟩⟩
  · exact ⟨hl, .inl hn⟩
  · exact ⟨hl, .inr ⟨g, cap, cur, rfl, Nat.le_trans hb hb', hg, rest⟩⟩
end

/-- A row of entries that is owned. -/
abbrev EntAt (w : World) (B : Nat) (v : Value) (l : DDir) : Prop := w.ownsRow B 82 2 v l.length (entL l)

theorem EntAt.src {w : World} {B : Nat} {v : Value} {l : DDir} (h : EntAt w B v l) : EntSrc w v l := by
  by_cases h0 : l.length = 0
  · have : l = [] := List.length_eq_zero_iff.1 h0
    subst this
    obtain ⟨a, c, rfl⟩ := ownN_slice h
    exact .inl ⟨a, c, rfl, rfl⟩
  · obtain ⟨g, cap, rfl⟩ := ownN_some h (by omega)
    refine .inr ⟨by omega, g, 0, cap, rfl, fun i hi => ?_⟩
    have hx := entL_at l i hi
    rw [Nat.zero_add]
    exact ⟨by rw [h.cellAt (i * 2) (by omega)]; exact hx.1, by rw [h.cellAt (i * 2 + 1) (by omega)]; exact hx.2⟩

/-- What entries that are read append to a row of entries. -/
theorem ent_append {w : World} {B : Nat} {v xv : Value} {l q : DDir} (hown : EntAt w B v l) (hsrc : EntSrc w xv q) (hl : l.length + q.length ≤ 1000000) (hB : B ≤ w.heap.size) :
    ∃ v' w', (Builtin.append_ #[67, 67] 0 #[v, xv]).run Try.prog w = .ok v' w' ∧ EntAt w' B v' (l ++ q) ∧ w.grownBy w' v.ownBlock ∧ (v'.ownBlock = v.ownBlock ∨ v'.ownBlock = some w.heap.size) := by
  obtain ⟨i0, hi0, hz0, hz1, hz2⟩ := info_parts Try.infoE
  have hm : l.length + q.length ≤ maxLen := by unfold maxLen; omega
  have ht := Try.underlying67
  have hll : (l ++ q).length = l.length + q.length := List.length_append
  have main : ∀ (a : Addr) (c : Nat), xv = .slice (some a) q.length c → (∀ j u, (entL q)[j]? = some u → w.cell? (a.add j) = some u) → ∃ v' w', (Builtin.append_ #[67, 67] 0 #[v, xv]).run Try.prog w = .ok v' w' ∧ EntAt w' B v' (l ++ q) ∧ w.grownBy w' v.ownBlock ∧ (v'.ownBlock = v.ownBlock ∨ v'.ownBlock = some w.heap.size) := by
    intro a c e hc
    subst e
    obtain ⟨v', w', hr, h2, h3, _, h5⟩ := run_append_own_at (P := Try.prog) w B _ 0 _ i0 _ 2 24 ht hi0 hz0 hz1 hz2 rfl (by decide) v l.length (entL l) hown a q.length c (entL q) (entL_len q)
      hc (entL_one q) hm (by omega) hB
    refine ⟨v', w', hr, ?_, h3, h5⟩
    unfold EntAt
    rw [hll, entL_app]
    exact h2
  rcases hsrc with ⟨a, c, rfl, rfl⟩ | ⟨h0, b, o, c, rfl, hc⟩
  · cases a with
    | none =>
      refine ⟨v, w, ?_, by rw [List.append_nil]; exact hown, World.grownBy.refl _ _, .inl rfl⟩
      rcases hown.2 with ⟨rfl, h0⟩ | ⟨g, cap, cur, rfl, hbg, hg, hnc, hcm, hcs, htake⟩
      · simp [Builtin.append_, run_underlying ht, sizeOf, typeInfo, hi0, Builtin.lenOf, Builtin.firstCells]
      · simp [Builtin.append_, run_underlying ht, sizeOf, typeInfo, hi0, Builtin.lenOf, Builtin.firstCells, hnc, storeCells]
    | some a => exact main a c rfl (fun j u hu => by simp [entL] at hu)
  · refine main _ c rfl (fun j u hu => ?_)
    rw [add_none]
    have hj : j < (entL q).length := (List.getElem?_eq_some_iff.1 hu).1
    rw [entL_len] at hj
    have hx := entL_at q (j / 2) (by omega)
    have hcc := hc (j / 2) (by omega)
    rcases Nat.mod_two_eq_zero_or_one j with hp | hp
    · have ej : j = j / 2 * 2 := by omega
      rw [ej] at hu ⊢
      rw [hx.1] at hu
      cases hu
      exact hcc.1
    · have ej : j = j / 2 * 2 + 1 := by omega
      rw [ej] at hu ⊢
      rw [hx.2] at hu
      cases hu
      rw [← Nat.add_assoc]
      exact hcc.2

/-- An entry that was laid just now. -/
theorem ent_lit (w : World) (p : List UInt8 × Nat) : EntSrc (w.alloc (.cells #[nmV p.1, .int .i64 (p.2 : Int)] 82)) (.slice (some ⟨w.heap.size, 0, none⟩) 1 1) [p] := by
  have hb := Blk.new w [nmV p.1, .int .i64 (p.2 : Int)] 82
  refine .inr ⟨by simp, w.heap.size, 0, 1, rfl, fun i hi => ?_⟩
  have : i = 0 := by simpa using hi
  subst this
  exact ⟨hb.cell 0 rfl, hb.cell 1 rfl⟩

/-- A row grows by an entry. -/
theorem ent_step {w0 w : World} {v : Value} {l : DDir} (hown : EntAt w w0.heap.size v l) (hk : Kept w0 w) (p : List UInt8 × Nat) (hl : l.length < 1000000) :
    ∃ g cap w', Hid ((Builtin.append_ #[67, 67] 0 #[v, .slice (some ⟨w.heap.size, 0, none⟩) 1 1]).run Try.prog (w.alloc (.cells #[nmV p.1, .int .i64 (p.2 : Int)] 82)) = .ok (.slice (some ⟨g, 0, none⟩) (l.length + 1) cap) w') ∧ EntAt w' w0.heap.size (.slice (some ⟨g, 0, none⟩) (l.length + 1) cap) (l ++ [p]) ∧ Kept w0 w' := by
  have k1 : Kept w (w.alloc (.cells #[nmV p.1, .int .i64 (p.2 : Int)] 82)) := (Only.refl _ w).alloc _
  obtain ⟨v', w', hr, h1, h2, h3⟩ := ent_append (ownN_stay hown k1) (ent_lit w p) (by simp; omega) (Nat.le_trans hk.size k1.size)
  obtain ⟨g, cap, rfl⟩ := ownN_some h1 (by simp)
  have hn : (l ++ [p]).length = l.length + 1 := by simp
  rw [hn] at hr h1
  refine ⟨g, cap, w', hr, h1, ?_⟩
  · exact (hk.trans k1 (fun _ _ f => f)).grown h2 (fun j hj hlt => by have := (ownN_lt hown hj).1; omega)

theorem drop_take (l : DDir) (n : List UInt8) (k : Nat) (h : k < l.length) : DD.drop (l.take (k + 1)) n = DD.drop (l.take k) n ++ (if l[k].1 == n then [] else [l[k]]) := by
  unfold DD.drop
  rw [List.take_succ_eq_append_getElem h, List.filter_append]
  congr 1
  rw [List.filter_cons, List.filter_nil]
  cases l[k].1 == n <;> rfl

set_option maxRecDepth 100000 in
set_option maxHeartbeats 1600000 in
theorem rdrop_any {w : World} {v : Value} {l : DDir} (h : EntSrc w v l) (hl : l.length ≤ 100000) (n : List UInt8) : Calls Try.prog 44 #[v, .string ⟨n.toArray⟩] w fun e w' => ∃ v', e = .returned v' ∧ EntAt w' w.heap.size v' (DD.drop l n) ∧ Kept w w' := by
  obtain ⟨a0, c0, e0⟩ := h.len
  obtain ⟨M, hM⟩ : ∃ M, l.length = M := ⟨_, rfl⟩
  rw [hM] at e0 hl
  subst e0
  have HM := Hid.mk hM
  have H0 := Hid.mk h
  clear hM h
  go_enter Try.func44, Try.ntmps44
  go_wp2_with fail
  go_loopw [5, 6] (fun v i wr => ∃ (k : Nat), k ≤ M ∧ i = .int .i64 (k : Int) ∧ EntAt wr w.heap.size v (DD.drop (l.take k) n) ∧ Kept w wr) (fun _ i _ => M - (intOf i).toNat)
  case atStart => exact ⟨0, by omega, rfl, ⟨rfl, .inl ⟨rfl, rfl⟩⟩, Only.refl _ _⟩
  case round =>
    obtain ⟨k, hk, rfl, hE, hkp⟩ := hrel
    obtain ⟨v5, c5, e5⟩ := ownN_slice hE
    subst e5
    have HE := Hid.mk hE
    have HK := Hid.mk hkp
    clear hE
    by_cases hlt : k < M
    · have hkl : k < l.length := by have := HM.out; omega
      rcases H0.out with ⟨a, c, e, e2⟩ | ⟨hpos, b, o, c, e1, hc⟩
      · exfalso
        rw [e2] at hkl
        exact absurd hkl (by simp)
      rw [HM.out] at e1
      cases e1
      have hcc : ∀ i (hi : i < l.length), wr.cell? ⟨b, o + i * 2, none⟩ = some (nmV l[i].1) ∧ wr.cell? ⟨b, o + i * 2 + 1, none⟩ = some (.int .i64 (l[i].2 : Int)) := by
        have := (H0.out.stay HK.out)
        rcases this with ⟨a, c, e, e2⟩ | ⟨_, b', o', c', e1', hc'⟩
        · exact absurd hpos (by rw [e2]; simp)
        · rw [HM.out] at e1'
          cases e1'
          exact hc'
      obtain ⟨x0, x1⟩ := hcc k hkl
      obtain ⟨p, hp⟩ : ∃ p, l[k] = p := ⟨_, rfl⟩
      have HD := Hid.mk (drop_take l n k hkl)
      rw [hp] at x0 x1 HD
      obtain ⟨s, f⟩ := p
      simp only at x0 x1 HD
      obtain ⟨q, hq⟩ : ∃ q, DD.drop (l.take k) n = q := ⟨_, rfl⟩
      rw [hq] at HE HD ⊢
      have hql : q.length ≤ M := by
        rw [← hq]
        refine Nat.le_trans (drop_le _ _) ?_
        rw [List.length_take]
        omega
      have HQ := Hid.mk hql
      obtain ⟨g, cap, w1, Hr, hown, hkk⟩ := ent_step HE.out HK.out (s, f) (by omega)
      have HO := Hid.mk hown
      have HKK := Hid.mk hkk
      unfold nmV at x0 Hr
      clear hc hcc hp hpos hq hql hown hkk hkp
      by_cases hn : s = n
      · subst hn
        have HD2 : Hid (DD.drop (l.take (k + 1)) s = q) := by have := HD.out; simp at this; exact this
        go_wp2_with fail
        go_roundw
        case rel => exact ⟨k + 1, by omega, by go_num, by rw [HD2.out]; exact HE.out, HK.out⟩
        case measure => simp [intOf]; omega
      · have hne : (s == n) = false := beq_eq_false_iff_ne.2 hn
        have HD2 : Hid (DD.drop (l.take (k + 1)) n = q ++ [(s, f)]) := by have := HD.out; rw [hne] at this; exact this
        go_wp2_with (at_builtin; refine wpList_append_run rfl _ _ _ rfl rfl rfl Hr ?_)
        go_roundw
        case rel => exact ⟨k + 1, by omega, by go_num, by rw [HD2.out]; exact HO.out, HKK.out⟩
        case measure => simp [intOf]; omega
    · have HT : Hid (l.take k = l) := List.take_of_length_le (by have := HM.out; omega)
      rw [HT.out] at HE ⊢
      clear hkp
      go_wp2_with fail
      go_ret
      exact ⟨_, rfl, HE.out, HK.out⟩
end Go.Proofs.Ytpjedcfdchebgaa
