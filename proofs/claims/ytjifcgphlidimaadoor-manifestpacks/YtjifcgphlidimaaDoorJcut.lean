/-
  bytes.Equal, bytes.HasPrefix, bytes.CutPrefix.
-/
import Derived.Test.YtjifcgphlidimaaDoorGbyt
namespace Go.Proofs.YtjifcgphlidimaaDoor.J
open Go Go.RowKit Go.Proofs.Lys
set_option linter.unusedVariables false
set_option linter.unusedSimpArgs false

theorem equal_any {w : World} {v u : Value} {a b : List UInt8} (h : SrcOf w v (a.map bV)) (h' : SrcOf w u (b.map bV)) :
    Calls Tryd.prog 30 #[v, u] w fun e w' => w' = w ∧ e = .returned (.bool (decide (a = b))) := by
  have c1 := G.bytes_str h
  have c2 := G.bytes_str h'
  have hs := G.str_eq a b
  generalize (⟨a.toArray⟩ : ByteArray) = sa at c1 hs
  generalize (⟨b.toArray⟩ : ByteArray) = sb at c2 hs
  clear h h'
  by_cases hab : a = b
  · have hs' : (sa.toList == sb.toList) = true := by rw [hs]; simp [hab]
    have HS := hid (decide_eq_true hab)
    clear hs hab
    go_enter Tryd.func30, Tryd.ntmps30
    go_wp2
    go_ret
    exact ⟨rfl, by rw [HS.out]; rfl⟩
  · have hs' : (sa.toList == sb.toList) = false := by rw [hs]; simp [hab]
    have HS := hid (decide_eq_false hab)
    clear hs hab
    go_enter Tryd.func30, Tryd.ntmps30
    go_wp2
    go_ret
    exact ⟨rfl, by rw [HS.out]; rfl⟩
theorem bsrc_pre {w : World} {v : Value} {bs : List UInt8} (h : G.BSrc w v bs) {hi : Nat} (h2 : hi ≤ bs.length) :
    ∃ a' c', (∀ W, (Instr.sliceAt 28 v none (some (.int .i64 (hi : Int))) none).run Tryd.prog W = .ok (.slice a' hi c') W) ∧ G.BSrc w (.slice a' hi c') (bs.take hi) := by
  obtain ⟨a', c', hr, hb⟩ := h.sub (Nat.zero_le hi) h2
  rw [List.drop_zero] at hb
  refine ⟨a', c', fun W => ?_, hb⟩
  obtain ⟨hs, a, c, rfl, hc⟩ := h
  have h3 := hr W
  have hz : ∀ W, (sizeOf 5).run Tryd.prog W = .ok 1 W := fun W => by kernel_rfl
  have e2 : hi ≤ c := by omega
  simp [Instr.sliceAt, Instr.slice, Instr.sliceBounds, Instr.sliceBound, run_underlying Tryd.underlying28, asIntOf, h2, e2, hz, Result.andThen] at h3 ⊢
  exact h3
set_option maxRecDepth 100000 in
set_option maxHeartbeats 800000 in
theorem hasprefix_any {w : World} {v u : Value} {a b : List UInt8} (h : G.BSrc w v a) (h' : G.BSrc w u b) :
    Calls Tryd.prog 48 #[v, u] w fun e w' => w' = w ∧ e = .returned (.bool (decide (a.take b.length = b))) := by
  obtain ⟨PQ, hPQ⟩ : ∃ PQ, (fun (e : Ending) (w' : World) => w' = w ∧ e = .returned (.bool (decide (a.take b.length = b)))) = PQ := ⟨_, rfl⟩
  rw [hPQ]
  have HPQ := hid hPQ
  by_cases hl : b.length ≤ a.length
  · obtain ⟨a2, c2, s2, b2⟩ := bsrc_pre h hl
    have HE := hid (equal_any (w := w) b2.1 h'.1)
    have HF : Hid (PQ (.returned (.bool (decide (a.take b.length = b)))) w) := hid (by rw [← HPQ.out]; exact ⟨rfl, rfl⟩)
    generalize decide (a.take b.length = b) = D at *
    obtain ⟨x1, y1, e1⟩ := h.len
    obtain ⟨x2, y2, e2⟩ := h'.len
    have d1 : decide (b.length ≤ a.length) = true := decide_eq_true hl
    generalize b.length = M at *
    generalize a.length = N at *
    subst e1
    subst e2
    clear h h' hPQ b2
    go_enter Tryd.func48, Tryd.ntmps48
    go_wp2_with fail
    refine HE.out.mono ?_
    rintro e w1 ⟨hw, rfl⟩
    replace hw := hw.symm
    subst hw
    clear HE
    go_wp2_with fail
    (try go_ret)
    exact HF.out
  · have HF : Hid (PQ (.returned (.bool false)) w) := hid (by
      rw [← HPQ.out]
      refine ⟨rfl, ?_⟩
      rw [decide_eq_false]
      intro e
      have := congrArg List.length e
      rw [List.length_take] at this
      omega)
    obtain ⟨x1, y1, e1⟩ := h.len
    obtain ⟨x2, y2, e2⟩ := h'.len
    have d1 : decide (b.length ≤ a.length) = false := decide_eq_false hl
    generalize b.length = M at *
    generalize a.length = N at *
    subst e1
    subst e2
    clear h h' hPQ
    go_enter Tryd.func48, Tryd.ntmps48
    go_wp2_with fail
    (try go_ret)
    exact HF.out
/-- What CutPrefix tells. -/
def CutP (w : World) (v : Value) (a b : List UInt8) (e : Ending) (w' : World) : Prop :=
  w' = w ∧ ((a.take b.length = b ∧ ∃ u, e = .returned (.tuple #[u, .bool true]) ∧ G.BSrc w u (a.drop b.length)) ∨ (a.take b.length ≠ b ∧ e = .returned (.tuple #[v, .bool false])))
set_option maxRecDepth 100000 in
set_option maxHeartbeats 800000 in
theorem cutprefix_any {w : World} {v u : Value} {a b : List UInt8} (h : G.BSrc w v a) (h' : G.BSrc w u b) :
    Calls Tryd.prog 42 #[v, u] w (CutP w v a b) := by
  obtain ⟨PQ, hPQ⟩ : ∃ PQ, CutP w v a b = PQ := ⟨_, rfl⟩
  rw [hPQ]
  have HPQ := hid hPQ
  have HE := hid (hasprefix_any h h')
  by_cases hp : a.take b.length = b
  · have hl : b.length ≤ a.length := by
      have := congrArg List.length hp
      rw [List.length_take] at this
      omega
    rw [decide_eq_true hp] at HE
    obtain ⟨a2, c2, s2, b2⟩ := h.tail hl
    have HF : Hid (PQ (.returned (.tuple #[.slice a2 (a.length - b.length) c2, .bool true])) w) := hid (by rw [← HPQ.out]; exact ⟨rfl, .inl ⟨hp, _, rfl, b2⟩⟩)
    obtain ⟨x1, y1, e1⟩ := h.len
    obtain ⟨x2, y2, e2⟩ := h'.len
    generalize b.length = M at *
    generalize a.length - M = NM at *
    generalize a.length = N at *
    subst e1
    subst e2
    clear h h' hPQ b2 hp
    go_enter Tryd.func42, Tryd.ntmps42
    go_wp2_with fail
    refine HE.out.mono ?_
    rintro e w1 ⟨hw, rfl⟩
    replace hw := hw.symm
    subst hw
    clear HE
    go_wp2_with fail
    (try go_ret)
    exact HF.out
  · rw [decide_eq_false hp] at HE
    have HF : Hid (PQ (.returned (.tuple #[v, .bool false])) w) := hid (by rw [← HPQ.out]; exact ⟨rfl, .inr ⟨hp, rfl⟩⟩)
    obtain ⟨x1, y1, e1⟩ := h.len
    obtain ⟨x2, y2, e2⟩ := h'.len
    generalize b.length = M at *
    generalize a.length = N at *
    subst e1
    subst e2
    clear h h' hPQ hp
    go_enter Tryd.func42, Tryd.ntmps42
    go_wp2_with fail
    refine HE.out.mono ?_
    rintro e w1 ⟨hw, rfl⟩
    replace hw := hw.symm
    subst hw
    clear HE
    go_wp2_with fail
    (try go_ret)
    exact HF.out
end Go.Proofs.YtjifcgphlidimaaDoor.J
