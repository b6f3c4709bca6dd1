/-
  The document's own: all frames from the beginning of bytes on.
-/
import Derived.Test.YtjohnomlhcncnaaDoorGrec
namespace Go.Proofs.YtjohnomlhcncnaaDoor.G
open Go.RowKit Go.Proofs.Lys
set_option linter.unusedVariables false

/-- What All leaves. -/
def AllPost (w : World) (bs : List UInt8) (e : Ending) (w' : World) : Prop :=
  Kept w w' ∧ ∃ (u : Value) (l : Recs) (n : Nat), e = .returned (.tuple #[u, .int .i64 (n : Int)]) ∧ Alls bs l n ∧ RecsAt w' w.heap.size u l
set_option maxRecDepth 100000 in
set_option maxHeartbeats 1600000 in
theorem rframes_any (w : World) (v : Value) (bs : List UInt8) (hs : BSrc w v bs) (hl : bs.length ≤ 400000) :
    Calls Tryd.prog 17 #[v] w (AllPost w bs) := by
  obtain ⟨a, c, rfl⟩ := hs.len
  obtain ⟨L, hL⟩ : ∃ L, bs.length = L := ⟨_, rfl⟩
  have HL := hid hL
  have HS := hid hs
  rw [hL] at HS hl ⊢
  clear hs hL
  go_enter Tryd.func17, Tryd.ntmps17
  go_wp2
  go_loopw [4, 5] (fun lv at_ wr => ∃ (l : Recs) (k : Nat), at_ = .int .i64 (k : Int) ∧ Chain bs 0 l ∧ endF 0 l = k ∧ k ≤ L ∧ RecsAt wr w.heap.size lv l ∧ Kept w wr) (fun _ at_ _ => L - (intOf at_).toNat)
  case atStart => exact ⟨[], 0, rfl, trivial, rfl, Nat.zero_le _, RecsAt_none _ _, Only.refl _ _⟩
  case round =>
    obtain ⟨l, k, rfl, hC, hE, hk, hR, kr⟩ := hrel
    obtain ⟨ta, tc, hsl, hbt⟩ := (HS.out.stay kr).tail (lo := k) (by rw [HL.out]; exact hk)
    have hrd := rreadframe_any wr _ (bs.drop k) hbt (by rw [List.length_drop, HL.out]; omega)
    rw [HL.out] at hsl hrd
    obtain ⟨la, lc, rfl⟩ := hR.slice
    have hce := chain_end l 0 (Nat.zero_le _) hC
    have hll : l.length ≤ 100000 := by have := HL.out; omega
    have HC := hid hC
    have HE := hid hE
    have HR := hid hR
    have HKr := hid kr
    clear hbt hC hE hR kr hce
    go_wp2_with fail
    refine hrd.mono ?_
    rintro e w1 ⟨k1, K, u, p, n, x, rfl, hG, ho⟩
    clear hrd
    rcases hG with ⟨hN, rfl, rfl, rfl, rfl⟩ | ⟨K', p', n', hN, rfl, rfl, rfl, rfl⟩
    · have HN := hid hN
      have HF : Hid (RecsAt w1 w.heap.size (.slice la l.length lc) l ∧ Kept w w1) := ⟨HR.out.stay k1, HKr.out.trans k1 (fun _ _ f => f)⟩
      clear hN ho k1
      go_wp2_with fail
      go_ret2
      exact ⟨HF.out.2, _, l, k, rfl, ⟨HC.out, HE.out.symm, HN.out⟩, HF.out.1⟩
    · have hlen := readF_len hN
      rw [List.length_drop] at hlen
      have hk1 : Kept w w1 := HKr.out.trans k1 (fun _ _ f => f)
      obtain ⟨g, cap, w2, Hr, hR2, hk2, _⟩ := rec_step (q := (K', p)) (HR.out.stay k1) hk1 (own_base ho HKr.out.size) (by omega)
      have hn9 : n = 9 + p.length := hlen.1
      have hkn : k + n ≤ L := by have := HL.out; omega
      have HF : Hid (RecsAt w2 w.heap.size (.slice (some ⟨g, 0, none⟩) (l.length + 1) cap) (l ++ [(K', p)]) ∧ Kept w w2 ∧ Chain bs 0 (l ++ [(K', p)]) ∧ endF 0 (l ++ [(K', p)]) = k + n) := by
        refine ⟨hR2, hk2, Chain_snoc _ l 0 HC.out ?_, ?_⟩
        · rw [HE.out, hN, hn9]
        · rw [endF_snoc, HE.out, hn9]
      obtain ⟨pa, pc, rfl⟩ := own_slice ho
      have hnpos : 0 < n := by omega
      clear hN hlen hk1 hR2 hk2 hn9 ho k1
      go_wp2_with (at_builtin; refine wpList_append_run rfl _ _ _ rfl rfl rfl Hr ?_)
      go_roundw
      case rel => exact ⟨_, k + n, by go_num, HF.out.2.2.1, HF.out.2.2.2, hkn, HF.out.1, HF.out.2.1⟩
      case measure => simp [intOf]; omega
end Go.Proofs.YtjohnomlhcncnaaDoor.G
