/-
  Rows of records: a number and bytes each.
-/
import Derived.Test.YtjohnomlhcncnaaDoorGread
import Derived.Test.YtjohnomlhcncnaaDoorGopen
namespace Go.Proofs.YtjohnomlhcncnaaDoor.G
open Go.RowKit Go.Proofs.Lys
set_option linter.unusedVariables false

/-! ### Frames one behind the other -/
abbrev Recs := List (Nat × List UInt8)
/-- Frames from a place on. -/
def Chain (bs : List UInt8) : Nat → Recs → Prop
  | _, [] => True
  | at_, q :: r => readF (bs.drop at_) = some (q.1, q.2, 9 + q.2.length) ∧ Chain bs (at_ + (9 + q.2.length)) r
/-- Where they end. -/
def endF : Nat → Recs → Nat
  | at_, [] => at_
  | at_, q :: r => endF (at_ + (9 + q.2.length)) r
theorem endF_snoc (q : Nat × List UInt8) : ∀ (l : Recs) (at_ : Nat), endF at_ (l ++ [q]) = endF at_ l + (9 + q.2.length)
  | [], _ => rfl
  | x :: r, at_ => endF_snoc q r _
theorem Chain_snoc {bs : List UInt8} (q : Nat × List UInt8) : ∀ (l : Recs) (at_ : Nat), Chain bs at_ l → readF (bs.drop (endF at_ l)) = some (q.1, q.2, 9 + q.2.length) → Chain bs at_ (l ++ [q])
  | [], _, _, h => ⟨h, trivial⟩
  | x :: r, at_, h, h' => ⟨h.1, Chain_snoc q r _ h.2 h'⟩
/-- All frames, and where the last one ends. -/
def Alls (bs : List UInt8) (l : Recs) (e : Nat) : Prop := Chain bs 0 l ∧ e = endF 0 l ∧ readF (bs.drop e) = none
theorem chain_inj {bs : List UInt8} : ∀ (l l' : Recs) (at_ : Nat), Chain bs at_ l → Chain bs at_ l' → readF (bs.drop (endF at_ l)) = none → readF (bs.drop (endF at_ l')) = none → l = l'
  | [], [], _, _, _, _, _ => rfl
  | [], y :: r', at_, _, h', h1, _ => by
    have h2 := h'.1
    have h3 : readF (bs.drop at_) = none := h1
    rw [h3] at h2
    cases h2
  | x :: r, [], at_, h, _, _, h1 => by
    have h2 := h.1
    have h3 : readF (bs.drop at_) = none := h1
    rw [h3] at h2
    cases h2
  | x :: r, y :: r', at_, h, h', h1, h2 => by
    have e := h.1.symm.trans h'.1
    simp only [Option.some.injEq, Prod.mk.injEq] at e
    have exy : x = y := Prod.ext e.1 e.2.1
    subst exy
    rw [chain_inj r r' _ h.2 h'.2 h1 h2]
theorem Alls.inj {bs : List UInt8} {l l' : Recs} {e e' : Nat} (h : Alls bs l e) (h' : Alls bs l' e') : l = l' ∧ e = e' := by
  obtain ⟨h1, rfl, h3⟩ := h
  obtain ⟨k1, rfl, k3⟩ := h'
  have := chain_inj l l' 0 h1 k1 h3 k3
  subst this
  exact ⟨rfl, rfl⟩
theorem chain_end {bs : List UInt8} : ∀ (l : Recs) (at_ : Nat), at_ ≤ bs.length → Chain bs at_ l → endF at_ l ≤ bs.length ∧ at_ + 9 * l.length ≤ endF at_ l ∧ ∀ q ∈ l, q.1 < 256 ∧ q.2.length ≤ 1048576 ∧ q.2.length ≤ bs.length
  | [], at_, h, _ => ⟨h, by simp [endF], fun q hq => by cases hq⟩
  | x :: r, at_, h, hc => by
    have hl := readF_len hc.1
    rw [List.length_drop] at hl
    obtain ⟨h1, h2, h3⟩ := chain_end r (at_ + (9 + x.2.length)) (by omega) hc.2
    refine ⟨h1, ?_, fun q hq => ?_⟩
    · show at_ + 9 * (r.length + 1) ≤ endF (at_ + (9 + x.2.length)) r
      omega
    · rcases List.mem_cons.1 hq with rfl | hq
      · exact ⟨hl.2.2.2.1, hl.2.2.1, by omega⟩
      · exact h3 q hq

/-! ### Rows -/
theorem Tryd.infoR : (Tryd.prog.info? 41).map (fun i => (i.zero, i.size, i.bytes)) = some (some (.agg #[.int .i64 0, .slice none 0 0]), 2, 32) := by kernel_rfl
section
variable {w w' : World} {base : Nat} {e : TypeId} {z : Nat} {v : Value} {n : Nat} {xs : List Value}
theorem ownN_slice (h : w.ownsRow base e z v n xs) : ∃ a cap, v = .slice a n cap := by
  rcases h.2 with ⟨rfl, rfl⟩ | ⟨g, cap, cur, rfl, _⟩
  · exact ⟨none, 0, rfl⟩
  · exact ⟨_, cap, rfl⟩
theorem ownN_some (h : w.ownsRow base e z v n xs) (h0 : 0 < n) : ∃ g cap, v = .slice (some ⟨g, 0, none⟩) n cap := by
  rcases h.2 with ⟨rfl, rfl⟩ | ⟨g, cap, cur, rfl, _⟩
  · omega
  · exact ⟨g, cap, rfl⟩
theorem ownN_block (h : w.ownsRow base e z v n xs) (hk : ∀ k, v.ownBlock = some k → w'.heap[k]? = w.heap[k]?) : w'.ownsRow base e z v n xs := by
  rcases h with ⟨hl, hn | ⟨g, cap, cur, rfl, hb, hg, rest⟩⟩
  · exact ⟨hl, .inl hn⟩
  · exact ⟨hl, .inr ⟨g, cap, cur, rfl, hb, (hk g rfl).trans hg, rest⟩⟩
theorem ownN_typed (h : w.ownsRow base e z v n xs) {k : Nat} (hk : v.ownBlock = some k) : Typed w k e := by
  rcases h.2 with ⟨rfl, _⟩ | ⟨g, cap, cur, rfl, hb, hg, _⟩
  · cases hk
  · have : g = k := by simpa [Value.ownBlock] using hk
    subst this
    exact ⟨_, _, hg⟩
theorem ownN_lt (h : w.ownsRow base e z v n xs) {k : Nat} (hk : v.ownBlock = some k) : base ≤ k ∧ k < w.heap.size := by
  rcases h.2 with ⟨rfl, _⟩ | ⟨g, cap, cur, rfl, hb, hg, _⟩
  · cases hk
  · have : g = k := by simpa [Value.ownBlock] using hk
    subst this
    exact ⟨hb, (Array.getElem?_eq_some_iff.1 hg).1⟩
theorem ownN_only {O : Nat → Prop} (h : w.ownsRow base e z v n xs) (k : Only O w w') (hO : ∀ b, v.ownBlock = some b → ¬ O b) : w'.ownsRow base e z v n xs :=
  ownN_block h (fun b hb => k.block b ((ownN_lt h hb).2) (hO b hb))
theorem ownN_stay (h : w.ownsRow base e z v n xs) (k : Kept w w') : w'.ownsRow base e z v n xs := ownN_only h k (fun _ _ f => f)
theorem ownN_base (h : w.ownsRow base e z v n xs) {b' : Nat} (hb : b' ≤ base) : w.ownsRow b' e z v n xs := by
  rcases h with ⟨hl, hn | ⟨g, cap, cur, rfl, hb', hg, rest⟩⟩
  · exact ⟨hl, .inl hn⟩
  · exact ⟨hl, .inr ⟨g, cap, cur, rfl, Nat.le_trans hb hb', hg, rest⟩⟩
end


/-- Records, cell by cell: their kinds, and where their bytes lie. -/
def recL : List (Nat × Value) → List Value
  | [] => []
  | p :: r => .int .i64 (p.1 : Int) :: p.2 :: recL r
theorem recL_len (l : List (Nat × Value)) : (recL l).length = l.length * 2 := by
  induction l with
  | nil => rfl
  | cons p r ih => rw [recL, List.length_cons, List.length_cons, ih, List.length_cons]; omega
theorem recL_app (l r : List (Nat × Value)) : recL (l ++ r) = recL l ++ recL r := by
  induction l with
  | nil => rfl
  | cons p l ih => rw [List.cons_append, recL, ih, recL]; rfl
theorem recL_at (l : List (Nat × Value)) (i : Nat) (h : i < l.length) : (recL l)[i * 2]? = some (.int .i64 (l[i].1 : Int)) ∧ (recL l)[i * 2 + 1]? = some l[i].2 := by
  induction l generalizing i with
  | nil => simp at h
  | cons p r ih =>
    cases i with
    | zero => exact ⟨rfl, rfl⟩
    | succ i =>
      have := ih i (by simpa using h)
      rw [show (i + 1) * 2 = i * 2 + 2 by omega]
      exact this
/-- A row of records that is owned, each with bytes of its own. -/
def RecsAt (w : World) (B : Nat) (v : Value) (l : Recs) : Prop :=
  ∃ vs : List Value, vs.length = l.length ∧ w.ownsRow B 41 2 v l.length (recL ((l.map (·.1)).zip vs)) ∧ ∀ i (h : i < vs.length), ∃ q, l[i]? = some q ∧ w.ownsRow B 5 1 vs[i] q.2.length (q.2.map bV)
theorem RecsAt_none (w : World) (B : Nat) : RecsAt w B (.slice .none 0 0) [] := ⟨[], rfl, ⟨rfl, .inl ⟨rfl, rfl⟩⟩, fun i h => by simp at h⟩
theorem RecsAt.stay {w w' : World} {B : Nat} {v : Value} {l : Recs} (h : RecsAt w B v l) (k : Kept w w') : RecsAt w' B v l := by
  obtain ⟨vs, h1, h2, h3⟩ := h
  exact ⟨vs, h1, ownN_stay h2 k, fun i hi => by obtain ⟨q, e, hq⟩ := h3 i hi; exact ⟨q, e, own_only hq k (fun _ _ f => f)⟩⟩
theorem RecsAt.base {w : World} {B B' : Nat} {v : Value} {l : Recs} (h : RecsAt w B v l) (hb : B' ≤ B) : RecsAt w B' v l := by
  obtain ⟨vs, h1, h2, h3⟩ := h
  exact ⟨vs, h1, ownN_base h2 hb, fun i hi => by obtain ⟨q, e, hq⟩ := h3 i hi; exact ⟨q, e, own_base hq hb⟩⟩
theorem RecsAt.slice {w : World} {B : Nat} {v : Value} {l : Recs} (h : RecsAt w B v l) : ∃ a c, v = .slice a l.length c := by
  obtain ⟨vs, h1, h2, h3⟩ := h
  exact ownN_slice h2
theorem RecsAt.low {w : World} {B : Nat} {v : Value} {l : Recs} (h : RecsAt w B v l) {k : Nat} (hk : v.ownBlock = some k) : B ≤ k ∧ Typed w k 41 := by
  obtain ⟨vs, h1, h2, h3⟩ := h
  exact ⟨(ownN_lt h2 hk).1, ownN_typed h2 hk⟩
theorem RecsAt.only {O : Nat → Prop} {w w' : World} {B : Nat} {v : Value} {l : Recs} (h : RecsAt w B v l) (k : Only O w w') (hO : ∀ j, O j → j < B) : RecsAt w' B v l := by
  obtain ⟨vs, h1, h2, h3⟩ := h
  refine ⟨vs, h1, ownN_only h2 k (fun b hb ho => by have := (ownN_lt h2 hb).1; have := hO b ho; omega), fun i hi => ?_⟩
  obtain ⟨q, e, hq⟩ := h3 i hi
  exact ⟨q, e, own_only hq k (fun b hb ho => by have := (hq.lt b hb).1; have := hO b ho; omega)⟩
/-- One record of a row, cell by cell. -/
theorem RecsAt.cell {w : World} {B : Nat} {a : Option Addr} {M c : Nat} {l : Recs} (h : RecsAt w B (.slice a M c) l) (i : Nat) (hi : i < l.length) : ∃ b u, a = some ⟨b, 0, none⟩ ∧ w.cell? ⟨b, i * 2, none⟩ = some (.int .i64 (l[i].1 : Int)) ∧ w.cell? ⟨b, i * 2 + 1, none⟩ = some u ∧ w.ownsRow B 5 1 u l[i].2.length (l[i].2.map bV) := by
  obtain ⟨vs, h1, h2, h3⟩ := h
  obtain ⟨g, cap, e⟩ := ownN_some h2 (by omega)
  cases e
  have hz : ((l.map (·.1)).zip vs).length = l.length := by rw [List.length_zip, List.length_map, h1, Nat.min_self]
  have hx := recL_at ((l.map (·.1)).zip vs) i (by omega)
  obtain ⟨q, hq, ho⟩ := h3 i (by omega)
  rw [List.getElem?_eq_getElem hi] at hq
  cases hq
  refine ⟨g, vs[i], rfl, ?_, ?_, ho⟩
  · rw [h2.cellAt (i * 2) (by omega), hx.1, List.getElem_zip, List.getElem_map]
  · rw [h2.cellAt (i * 2 + 1) (by omega), hx.2, List.getElem_zip]

/-- A row grows by a record. -/
theorem rec_app {w : World} {B : Nat} {v u : Value} {l : Recs} {q : Nat × List UInt8} (hown : RecsAt w B v l) (hB : B ≤ w.heap.size) (hu : w.ownsRow B 5 1 u q.2.length (q.2.map bV)) (hl : l.length < 1000000) :
    ∃ g cap w', Hid ((Builtin.append_ #[37, 37] 0 #[v, .slice (some ⟨w.heap.size, 0, none⟩) 1 1]).run Tryd.prog (w.alloc (.cells #[.int .i64 (q.1 : Int), u] 41)) = .ok (.slice (some ⟨g, 0, none⟩) (l.length + 1) cap) w') ∧ RecsAt w' B (.slice (some ⟨g, 0, none⟩) (l.length + 1) cap) (l ++ [q]) ∧ Only (fun k => v.ownBlock = some k) w w' := by
  obtain ⟨vs, h1, h2, h3⟩ := hown
  obtain ⟨i0, hi0, hz0, hz1, hz2⟩ := info_parts Tryd.infoR
  have k1 : Kept w (w.alloc (.cells #[.int .i64 (q.1 : Int), u] 41)) := (Only.refl _ w).alloc _
  have hb : Blk (w.alloc (.cells #[.int .i64 (q.1 : Int), u] 41)) w.heap.size [.int .i64 (q.1 : Int), u] 41 := Blk.new w [.int .i64 (q.1 : Int), u] 41
  obtain ⟨ua, uc, hue⟩ := own_slice hu
  obtain ⟨v', w', hr, hown', hg, _, _⟩ := run_append_own_at (P := Tryd.prog) (w.alloc (.cells #[.int .i64 (q.1 : Int), u] 41)) B _ 0 _ i0 _ 2 32 Tryd.underlying37 hi0 hz0 hz1 hz2 rfl (by decide) v l.length _ (ownN_stay h2 k1) ⟨w.heap.size, 0, .none⟩ 1 1 [.int .i64 (q.1 : Int), u] rfl
    (fun j x hx => by
      rw [add_none, Nat.zero_add]
      exact hb.cell j hx) (by
      intro x hx
      simp at hx
      rcases hx with rfl | rfl
      · rfl
      · rw [hue]; rfl) (by unfold maxLen; omega) (by omega) (Nat.le_trans hB k1.size)
  obtain ⟨g, cap, rfl⟩ := ownN_some hown' (by simp)
  have hO : Only (fun k => v.ownBlock = some k) w w' := ((Only.refl _ w).alloc _).grown hg (fun j hj _ => hj)
  have hn : (l ++ [q]).length = l.length + 1 := by simp
  have keep : ∀ {x : Value} {bs : List UInt8}, w.ownsRow B 5 1 x bs.length (bs.map bV) → w'.ownsRow B 5 1 x bs.length (bs.map bV) := fun {x bs} hx =>
    own_only hx hO (fun j hj e => (own_typed hx hj).ne (ownN_typed h2 e) (by decide) rfl)
  refine ⟨g, cap, w', hr, ⟨vs ++ [u], by simp [h1], ?_, fun i hi => ?_⟩, hO⟩
  · rw [hn, List.map_append, List.zip_append (by rw [List.length_map, h1])]
    rw [recL_app]
    exact hown'
  · by_cases hlt : i < vs.length
    · obtain ⟨p, hp, ho⟩ := h3 i hlt
      refine ⟨p, by rw [List.getElem?_append_left (by omega)]; exact hp, ?_⟩
      rw [List.getElem_append_left hlt]
      exact keep ho
    · have e : i = vs.length := by simp at hi; omega
      refine ⟨q, by rw [List.getElem?_append_right (by omega), e, h1, Nat.sub_self]; rfl, ?_⟩
      rw [List.getElem_append_right (by omega)]
      simp only [List.getElem_singleton]
      exact keep hu
theorem rec_step {w0 w : World} {v u : Value} {l : Recs} {q : Nat × List UInt8} (hown : RecsAt w w0.heap.size v l) (hk : Kept w0 w) (hu : w.ownsRow w0.heap.size 5 1 u q.2.length (q.2.map bV)) (hl : l.length < 1000000) :
    ∃ g cap w', Hid ((Builtin.append_ #[37, 37] 0 #[v, .slice (some ⟨w.heap.size, 0, none⟩) 1 1]).run Tryd.prog (w.alloc (.cells #[.int .i64 (q.1 : Int), u] 41)) = .ok (.slice (some ⟨g, 0, none⟩) (l.length + 1) cap) w') ∧ RecsAt w' w0.heap.size (.slice (some ⟨g, 0, none⟩) (l.length + 1) cap) (l ++ [q]) ∧ Kept w0 w' ∧ Only (fun k => v.ownBlock = some k) w w' := by
  obtain ⟨g, cap, w', hr, hR, hO⟩ := rec_app hown hk.size hu hl
  obtain ⟨vs, h1, h2, h3⟩ := hown
  exact ⟨g, cap, w', hr, hR, hk.trans hO (fun j hj e => by have := (ownN_lt h2 e).1; omega), hO⟩
end Go.Proofs.YtjohnomlhcncnaaDoor.G
