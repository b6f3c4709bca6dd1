/-
  heapOf; Samples.
-/
import Derived.Test.YtcacoanhiphbiaaZsc
namespace Go.Proofs.Ytcacoanhiphbiaa.Ms
open Go Go.RowKit Go.Proofs.Lys
set_option linter.unusedVariables false
set_option linter.unusedSimpArgs false

/-- Lists of samples that are read. -/
structure LLSrc (RK : Rank) (w : World) (v : Value) (vs : List Value) (ls : List Smps) : Prop where
  src : SrcOf w v vs
  len : vs.length = ls.length
  each : ∀ i (h : i < ls.length) (h' : i < vs.length), SSrc RK w vs[i] ls[i]
theorem LLSrc.stay {RK : Rank} {w w' : World} {v : Value} {vs : List Value} {ls : List Smps} (h : LLSrc RK w v vs ls) (k : Kept w w') : LLSrc RK w' v vs ls := ⟨h.src.stay k, h.len, fun i h1 h2 => (h.each i h1 h2).stay k⟩
theorem flat_take {ls : List Smps} {k : Nat} (h : k < ls.length) : (ls.take (k + 1)).flatten = (ls.take k).flatten ++ ls[k] := by
  rw [List.take_add_one, List.getElem?_eq_getElem h, Option.toList_some, List.flatten_append]
  simp
theorem flat_part (ls : List Smps) (k : Nat) : (ls.take k).flatten.length ≤ ls.flatten.length := by
  have := congrArg List.length (congrArg List.flatten (List.take_append_drop k ls))
  rw [List.flatten_append, List.length_append] at this
  omega
theorem HeapC.toW {RK : Rank} {w0 : World} {hb : Nat} {h : List Run} {a : Option Addr} {c : Nat} {w : World} (H : HeapC RK w0 hb h a c w) (h0 : 0 < h.length) : ∃ g, a = some ⟨g, 0, none⟩ ∧ HeapW RK w0 hb h g c w := by
  obtain ⟨g, cap, e⟩ := ownN_some H.row h0
  simp only [Value.slice.injEq, true_and] at e
  obtain ⟨rfl, rfl⟩ := e
  exact ⟨g, rfl, H.blk, H.row, H.src, H.kept, H.base⟩
theorem HeapW.toC {RK : Rank} {w0 : World} {hb : Nat} {h : List Run} {g c : Nat} {w : World} (H : HeapW RK w0 hb h g c w) : HeapC RK w0 hb h (some ⟨g, 0, none⟩) c w := ⟨H.blk, H.row, H.src, H.kept, H.base⟩
/-- What heapOf leaves. -/
def HeapP (RK : Rank) (w : World) (ls : List Smps) (e : Ending) (w' : World) : Prop :=
  ∃ hb h a c, e = .returned (.pointer (some ⟨hb, 0, none⟩)) ∧ HeapC RK w hb h a c w' ∧ MrgI h [] (mrg ls.flatten) ∧ h.length ≤ ls.flatten.length ∧ (flat h).length = ls.flatten.length

set_option maxRecDepth 100000 in
set_option maxHeartbeats 3200000 in
theorem heapof_any {RK : Rank} (w : World) (v : Value) (vs : List Value) (ls : List Smps) (hs : LLSrc RK w v vs ls) (hl : ls.flatten.length ≤ 100000) (hm : ls.length ≤ 100000) :
    Calls Try.prog 12 #[v, fnV] w (HeapP RK w ls) := by
  obtain ⟨R, hR⟩ : ∃ R, HeapP RK w ls = R := ⟨_, rfl⟩
  rw [hR]
  have HRR := hid hR
  have HS := hid hs
  obtain ⟨a0, c0, rfl⟩ := hs.src.len
  obtain ⟨M, hM⟩ : ∃ M, vs.length = M := ⟨_, rfl⟩
  have HM := hid hM
  have HML := hid hs.len
  have HFL := hid hl
  rw [← hs.len, hM] at hm
  rw [hM] at HS ⊢
  have H0 : Hid (HeapC RK w w.heap.size [] none 0 (w.alloc (.cells #[.slice none 0 0, fnV] 55))) := hid ⟨Blk.new w [.slice none 0 0, fnV] 55, ⟨rfl, .inl ⟨rfl, rfl⟩⟩, fun r hr => (by cases hr), (Only.refl _ w).alloc _, Nat.le_refl _⟩
  obtain ⟨hb, hhb⟩ : ∃ hb, w.heap.size = hb := ⟨_, rfl⟩
  have HHB := hid hhb
  clear hs hR hM hl
  go_enter Try.func12, Try.ntmps12
  go_wp2
  rw [HHB.out] at H0
  go_loopw [14] (fun s wr => ∃ (k : Nat) (h : List Run) (a : Option Addr) (c : Nat), k ≤ M ∧ s = .int .i64 (k : Int) ∧ Hid (HeapC RK w hb h a c wr) ∧ Hid (PlcI h) ∧ Hid (flat h = (ls.take k).flatten) ∧ Hid (h.length ≤ (ls.take k).flatten.length)) (fun s _ => M - (intOf s).toNat)
  case atStart => exact ⟨0, [], none, 0, by omega, rfl, H0, hid plc_nil, hid rfl, hid (Nat.le_refl _)⟩
  case round =>
    clear H0
    obtain ⟨k, h, a, c, hk, rfl, HC, HP, HF, HN⟩ := hrel
    by_cases hlt : k < M
    · have hkl : k < ls.length := by have := HM.out; have := HML.out; omega
      have hkv : k < vs.length := by have := HM.out; omega
      obtain ⟨b, o, rfl⟩ : ∃ b o, a0 = some ⟨b, o, none⟩ := by
        rcases HS.out.src.shape with ⟨hnil, _⟩ | ⟨_, b, o, c', e, _⟩
        · rw [hnil] at hkv; simp at hkv
        · simp only [Value.slice.injEq] at e
          exact ⟨b, o, e.1⟩
      have hsk := HS.out.each k hkl hkv
      obtain ⟨a1, c1, e1, hc1⟩ := hsk.2
      have hcell : wr.cell? ⟨b, o + k, none⟩ = some (.slice a1 ls[k].length c1) := by
        rcases (HS.out.stay HC.out.kept).src.shape with ⟨hnil, _⟩ | ⟨_, b', o', c', e, hcc⟩
        · rw [hnil] at hkv; simp at hkv
        · simp only [Value.slice.injEq, Option.some.injEq, Addr.mk.injEq, and_true] at e
          obtain ⟨⟨rfl, rfl⟩, _⟩ := e
          rw [← e1]
          exact hcc k _ (List.getElem?_eq_getElem hkv)
      have hbl : b < wr.heap.size := World.block_lt_of_cell? wr _ hcell
      rw [e1] at hsk
      have hft := flat_take hkl
      have hfp := flat_part ls (k + 1)
      rw [hft, List.length_append] at hfp
      obtain ⟨l, hle⟩ : ∃ l, ls[k] = l := ⟨_, rfl⟩
      rw [hle] at hcell hsk hft hfp
      obtain ⟨LL, hLL⟩ : ∃ LL, l.length = LL := ⟨_, rfl⟩
      rw [hLL] at hcell hsk hfp
      have HCU := hid (cut_any wr HC.out a1 LL c1 l hsk hLL (by have := HN.out; have := HFL.out; omega) HP.out)
      have HFT := hid hft
      have HLL := hid hLL
      clear hsk e1 hc1 hft hfp hle hLL
      go_wp2_with fail
      refine HCU.out.mono ?_
      rintro e w2 ⟨rfl, h2, a2, c2, hc2, hp2, hf2, hn2⟩
      have HC2 := hid hc2
      have HP2 := hid hp2
      have HF2 : Hid (flat h2 = (ls.take (k + 1)).flatten) := hid (by rw [hf2, HF.out, HFT.out])
      have HN2 : Hid (h2.length ≤ (ls.take (k + 1)).flatten.length) := hid (by rw [HFT.out, List.length_append, HLL.out]; have := HN.out; omega)
      clear HCU hc2 hp2 hf2 hn2 hcell hbl
      go_wp2
      go_roundw
      case rel => exact ⟨k + 1, h2, a2, c2, by omega, by go_num, HC2, HP2, HF2, HN2⟩
      case measure => simp [intOf]; omega
    · have hke : k = M := by omega
      have hall : ls.take k = ls := List.take_of_length_le (by have := HM.out; have := HML.out; omega)
      rw [hall] at HF HN
      obtain ⟨N, hN⟩ : ∃ N, h.length = N := ⟨_, rfl⟩
      have HNN := hid hN
      have hN5 : N ≤ 100000 := by have := HN.out; have := HFL.out; omega
      have hcb := HC.out.blk
      rw [hN] at hcb
      have b0 := hcb.cell 0 rfl
      have hltb := hcb.lt
      obtain ⟨D, hD⟩ : ∃ D, N / 2 = D := ⟨_, rfl⟩
      have d1 : (N : Int).tdiv 2 = (D : Int) := by rw [Int.tdiv_eq_ediv_of_nonneg (by omega)]; omega
      have d2 : (N : Int) / 2 = (D : Int) := by omega
      have hD5 : D ≤ 100000 := by omega
      have HD2 : Hid (2 * D ≤ N) := hid (by omega)
      have HLF : Hid (HeapI h D) := hid (heap_leaf h D (by omega))
      have HMR : Hid (∀ h2 : List Run, h2.Perm h → HeapI h2 0 → MrgI h2 [] (mrg ls.flatten)) := hid (fun h2 hp hI => by rw [← HF.out]; exact mrg_start HP.out hp hI)
      have HNE : Hid (∀ r ∈ h, r.2.1 ≠ []) := hid (fun r hr => (HP.out.2 r hr).1)
      have HFN : Hid ((flat h).length = ls.flatten.length) := hid (by rw [HF.out])
      clear hcb hN hall hD
      subst hke
      go_wp2
      go_loopw [8] (fun s W => ∃ (m : Nat) (h2 : List Run) (a : Option Addr) (c : Nat), m ≤ D ∧ s = .int .i64 ((m : Int) - 1) ∧ Hid (h2.Perm h) ∧ Hid (HeapI h2 m) ∧ Hid (HeapC RK w hb h2 a c W)) (fun s _ => (intOf s + 1).toNat)
      case atStart => exact ⟨D, h, a, c, Nat.le_refl _, rfl, hid (List.Perm.refl h), HLF, HC⟩
      case round =>
        clear HLF b0 hltb d1 d2
        obtain ⟨m, h2, a, c, hm2, rfl, HPM, HHI, HC2⟩ := hrel
        have HL2 := hid (HPM.out.length_eq.trans HNN.out)
        by_cases hm0 : m = 0
        · subst hm0
          have HF2 : Hid (R (.returned (.pointer (some ⟨hb, 0, none⟩))) wr) := hid (by
            rw [← HRR.out]
            exact ⟨hb, h2, a, c, rfl, HC2.out, HMR.out h2 HPM.out HHI.out, by rw [HL2.out, ← HNN.out]; exact HN.out, by rw [flat_perm HPM.out]; exact HFN.out⟩)
          go_wp2
          exact HF2.out
        · obtain ⟨m, rfl⟩ : ∃ m', m = m' + 1 := ⟨m - 1, by omega⟩
          obtain ⟨g, rfl, hW⟩ := HC2.out.toW (by have := HL2.out; have := HD2.out; omega)
          have HSK := hid (sink_any wr hW (by have := HL2.out; omega) (fun r hr => HNE.out r (HPM.out.subset hr)) m m (heap_weak HHI.out) (Nat.le_refl _) (by omega))
          unfold SinkP at HSK
          clear hW
          have hcast : ((m + 1 : Nat) : Int) - 1 = (m : Int) := by omega
          rw [hcast]
          go_wp2_with fail
          refine HSK.out.mono ?_
          rintro e w3 ⟨rfl, h3, hp3, hi3, hw3, _⟩
          have HP3 := hid (hp3.trans HPM.out)
          have HI3 := hid hi3
          have HC3 := hid hw3.toC
          clear HSK hp3 hi3 hw3
          go_wp2
          go_roundw
          case rel => exact ⟨m, h3, _, c, by omega, by go_num, HP3, HI3, HC3⟩
          case measure => simp [intOf]; try omega
end Go.Proofs.Ytcacoanhiphbiaa.Ms
