/-
  What package floats prints of a fraction: a point and its digits, each by the product by ten.
-/
import Derived.Test.YtcpgamhekelamaaDoorFparse
import Derived.Laws.IdiomStrings
import Derived.Laws.OwnMore
import Derived.OwnWalk
namespace Go.Proofs.YtcpgamhekelamaaDoor
open Go.RowKit
set_option linter.unusedVariables false

def valB (b : UInt8) : Value := .int .u8 (b.toNat : Int)
def digB (d : Int) : UInt8 := UInt8.ofNat (48 + d.toNat)
def fracL : Nat → Int → List UInt8
  | 0, _ => []
  | n + 1, f => if f = 0 then [] else digB (f * 10 / 4294967296) :: fracL n (f * 10 % 4294967296)
def fracT (f : Int) : List UInt8 := if f = 0 then [] else 46 :: fracL 32 f
def lenOf : Value → Nat | .slice _ n _ => n | _ => 0

theorem digB_nat (d : Int) (h0 : 0 ≤ d) (h1 : d ≤ 9) : ((digB d).toNat : Int) = 48 + d := by
  unfold digB
  have : (48 + d.toNat) < 256 := by omega
  simp [UInt8.toNat_ofNat]
  omega
theorem frac_step (k : Nat) (x : Int) (h0 : x ≠ 0) (hk : k < 32) : fracL (32 - k) x = digB (x * 10 / 4294967296) :: fracL (32 - (k + 1)) (x * 10 % 4294967296) := by
  rw [show 32 - k = (32 - (k + 1)) + 1 by omega]
  show (if x = 0 then _ else _) = _
  rw [if_neg h0]
theorem pow_more (k : Nat) (x : Int) (hk : k < 32) (h : (2 : Int) ^ k ∣ x) : (2 : Int) ^ (k + 1) ∣ x * 10 % 4294967296 := by
  obtain ⟨c, rfl⟩ := h
  have e : (4294967296 : Int) = 2 ^ (k + 1) * 2 ^ (31 - k) := by
    rw [← Int.pow_add, show k + 1 + (31 - k) = 32 by omega]; rfl
  have e2 : (2 : Int) ^ k * c * 10 = 2 ^ (k + 1) * (c * 5) := by rw [Int.pow_succ]; grind
  rw [e2, e, Int.mul_emod_mul_of_pos _ _ (Int.pow_pos (by decide))]
  exact Int.dvd_mul_right _ _
theorem pow_end (x : Int) (h0 : 0 ≤ x) (h1 : x < 4294967296) (h : (2 : Int) ^ 32 ∣ x) : x = 0 := by
  obtain ⟨c, rfl⟩ := h
  rw [show (2 : Int) ^ 32 = 4294967296 from rfl] at *
  omega

theorem info8 : (Tryd.prog.info? 5).map (fun i => (i.zero, i.size, i.bytes)) = some (some (.int .u8 0), 1, 1) := by kernel_rfl

set_option maxHeartbeats 1600000 in
set_option maxRecDepth 1000000 in
theorem frac_any (f : Int) (w : World) (f0 : 0 ≤ f) (f1 : f < 4294967296) :
    Calls Tryd.prog 37 #[.int .i64 f] w fun e w' => e = .returned (.string ⟨(fracT f).toArray⟩) ∧ Stay w w' := by
  unfold fracT
  by_cases hf : f = 0
  · subst hf
    rw [if_pos rfl]
    go_enter Tryd.func37, Tryd.ntmps37
    go_wp2
    go_ret
    exact ⟨rfl, Stay.refl _⟩
  rw [if_neg hf]
  obtain ⟨i0, hi, hz0, hz1, hz2⟩ := info_parts info8
  have hf' : (f == 0) = false := by simp [hf]
  go_enter Tryd.func37, Tryd.ntmps37
  go_wp2
  go_loopw [0, 3] (fun p t wr => ∃ (k : Nat) (x : Int) (ds : List UInt8), k ≤ 32 ∧ p = .int .i64 x ∧ 0 ≤ x ∧ x < 4294967296 ∧ (2 : Int) ^ k ∣ x ∧ ds.length = k ∧ ds ++ fracL (32 - k) x = fracL 32 f ∧ wr.ownsRow w.heap.size 5 1 t (k + 1) ((46 :: ds).map valB) ∧ Stay w wr) (fun _ t _ => 40 - lenOf t)
  case atStart =>
    refine ⟨0, f, [], by omega, rfl, f0, f1, Int.one_dvd _, rfl, rfl, ?_, (Stay.refl _).alloc _⟩
    exact World.ownsRow_lit w _ 1 (Nat.le_refl _) (by decide) rfl
  case round =>
    obtain ⟨k, x, ds, k1, rfl, x0, x1, hdv, hlen, hds, hown, hst⟩ := hrel
    by_cases hx : x = 0
    · subst hx
      have e0 : Hid (fracL 32 f = ds) := by show _ = _; rw [← hds]; cases 32 - k <;> simp [fracL]
      obtain ⟨hl1, hr⟩ := hown
      rcases hr with ⟨_, h⟩ | ⟨g, cap, cur, rfl, hg, hh, hn, hcm, hcs, htk⟩
      · omega
      have hown' : wr.ownsRow w.heap.size 5 1 (.slice (some ⟨g, 0, none⟩) (k + 1) cap) (k + 1) ((46 :: ds).map valB) := ⟨hl1, Or.inr ⟨g, cap, cur, rfl, hg, hh, hn, hcm, hcs, htk⟩⟩
      have hconv : (convert 69 9 (.slice (some ⟨g, 0, none⟩) (k + 1) cap)).run Tryd.prog wr = .ok (.string ⟨(46 :: ds).toArray⟩) wr := by
        have := run_convert_bytes_back (P := Tryd.prog) wr 69 9 5 ⟨g, 0, none⟩ cap (46 :: ds) Tryd.underlying69 Tryd.underlying5 Tryd.underlying9 (fun j hj => by
          have := World.ownsRow.cells hown' (g := g) rfl j (valB ((46 :: ds)[j])) (by rw [List.getElem?_map, List.getElem?_eq_getElem hj]; rfl)
          exact this)
        rw [List.length_cons, hlen] at this
        exact this
      have HS : Hid (Stay w wr) := hst
      clear hown' hl1 hh hn hcm hcs htk hds hdv hst
      go_wp2
      go_ret
      exact ⟨by rw [e0.out]; rfl, HS.out⟩
    · have hk : k < 32 := by
        rcases Nat.lt_or_ge k 32 with h | h
        · exact h
        · exact absurd (pow_end x x0 x1 (by rw [show (32 : Nat) = k by omega]; exact hdv)) hx
      obtain ⟨g0, cap0, rfl⟩ : ∃ g cap, u3 = .slice (some ⟨g, 0, none⟩) (k + 1) cap := by
        rcases hown.2 with ⟨_, h⟩ | ⟨g, cap, cur, h, _⟩
        · omega
        · exact ⟨g, cap, h⟩
      have hx' : (x == 0) = false := by simp [hx]
      have hstep := frac_step k x hx hk
      have hdv' := pow_more k x hk hdv
      have hm := mask_i64 (x * 10) (by omega) (by omega)
      obtain ⟨d, hd⟩ : ∃ d, x * 10 / 4294967296 = d := ⟨_, rfl⟩
      obtain ⟨y, hy⟩ : ∃ y, x * 10 % 4294967296 = y := ⟨_, rfl⟩
      rw [hd, hy] at hstep
      rw [hy] at hdv' hm
      have d0 : 0 ≤ d := by omega
      have d1 : d ≤ 9 := by omega
      have y0 : 0 ≤ y := by omega
      have y1 : y < 4294967296 := by omega
      have HD : Hid (ds ++ fracL (32 - k) x = fracL 32 f) := hds
      have HT : Hid _ := hstep
      have HV : Hid _ := hdv'
      have HW : Hid _ := hdv
      have HB : Hid (((digB d).toNat : Int) = 48 + d) := digB_nat d d0 d1
      have HS : Hid (Stay w wr) := hst
      have hsz : Hid (w.heap.size ≤ wr.heap.size) := hst.size
      have HL : Hid (ds.length = k) := hlen
      clear hds hstep hdv' hdv hy hst hlen
      go_wp2_with (at_builtin; refine wpList_append_own _ rfl _ _ 69 rfl w.heap.size 5 i0 (.int .u8 0) 1 1 Tryd.underlying69 hi hz0 hz1 hz2 rfl (by decide) _ _ _ rfl (hown.alloc _) ⟨wr.heap.size, 0, none⟩ 1 1 [.int .u8 (48 + d)] rfl rfl ?c1 ?c2 ?c3 ?c4 ?c5 ?_)
      case c1 =>
        intro j u hj
        match j, hj with
        | 0, hj => simp at hj; subst hj; simp [Addr.add]
      case c2 => first | rfl | (intro u hu; simp at hu; subst hu; rfl)
      case c3 => unfold maxLen; omega
      case c4 => omega
      case c5 => have := hsz.out; simp; omega
      intro v' w2 hown' hgrow' _
      have hlt := hown.lt
      have hst2 : Hid (Stay w w2) := (Stay.alloc HS.out _).grown hgrow' (by have := hsz.out; simp; omega) (fun k hk => (hlt k hk).1)
      obtain ⟨g', cap', rfl⟩ : ∃ g cap, v' = .slice (some ⟨g, 0, none⟩) (k + 1 + 1) cap := by
        rcases hown'.2 with ⟨_, h⟩ | ⟨g, cap, cur, h, _⟩
        · omega
        · exact ⟨g, cap, h⟩
      have HO : Hid _ := hown'
      clear hown' hgrow' hown hlt
      go_wp2
      go_roundw
      case rel =>
        refine ⟨k + 1, y, ds ++ [digB d], by omega, rfl, y0, y1, HV.out, by rw [List.length_append, HL.out]; rfl, ?_, ?_, hst2.out⟩
        · rw [List.append_assoc, List.singleton_append, ← HT.out]; exact HD.out
        · have e : ((46 :: (ds ++ [digB d])).map valB) = (46 :: ds).map valB ++ [.int .u8 (48 + d)] := by
            rw [← List.cons_append, List.map_append]
            simp [valB, HB.out]
          rw [e]
          exact HO.out
      case measure => simp [lenOf]; omega
end Go.Proofs.YtcpgamhekelamaaDoor
