/-
  What the document's own answers print: the digits of a size, of a whole number.
-/
import Derived.Test.YtcpgamhekelamaaDoorFplain
namespace Go.Proofs.YtcpgamhekelamaaDoor
open Go.RowKit
set_option linter.unusedVariables false

theorem nums_all : ∀ n : Fin 10, (ByteArray.mk #[48, 49, 50, 51, 52, 53, 54, 55, 56, 57]).extract n.val (n.val + 1) = ByteArray.mk [UInt8.ofNat (48 + n.val)].toArray := by decide +kernel
theorem run_slice_n (s : ByteArray) (l h : Nat) (k : IntKind) (w : World) (h1 : h ≤ s.size) (h2 : l ≤ h) (i j : Int) (hi : i = (l : Int)) (hj : j = (h : Int)) :
    (Instr.slice 9 (.string s) (some (.int k i)) (some (.int k j)) none).run Tryd.prog w = .ok (.string (s.extract l h)) w := by
  subst hi hj
  simp [Instr.slice, Instr.sliceBounds, Instr.sliceBound, asIntOf, go_sem, h1, h2, run_underlying Tryd.underlying9]
theorem num_slice (k : IntKind) (d : Int) (w : World) (d0 : 0 ≤ d) (d1 : d ≤ 9) : (Instr.slice 9 (.string ⟨#[48, 49, 50, 51, 52, 53, 54, 55, 56, 57]⟩) (some (.int k d)) (some (.int k (d + 1))) none).run Tryd.prog w = .ok (.string (ByteArray.mk [digB d].toArray)) w := by
  have := run_slice_n ⟨#[48, 49, 50, 51, 52, 53, 54, 55, 56, 57]⟩ d.toNat (d.toNat + 1) k w (by show d.toNat + 1 ≤ 10; omega) (by omega) d (d + 1) (by omega) (by omega)
  rw [nums_all ⟨d.toNat, by omega⟩] at this
  exact this

theorem rdec_any : ∀ (n : Nat) (w : World), n < 18446744073709551616 →
    Calls Tryd.prog 41 #[.int .u64 (n : Int)] w fun e w' => e = .returned (.string ⟨(Lib.decDigits n).toArray⟩) ∧ Stay w w' := by
  intro n
  induction n using Nat.strongRecOn with
  | _ n ih =>
    intro w hn
    have hsl := fun w => num_slice .u64 ((n : Int) % 10) w (by omega) (by omega)
    by_cases h : n < 10
    · have e : ByteArray.mk (Lib.decDigits n).toArray = ByteArray.mk [digB ((n : Int) % 10)].toArray := by
        rw [Lib.decDigits, dif_pos h]
        unfold digB
        rw [show ((n : Int) % 10).toNat = n by omega]
      rw [e]
      generalize ByteArray.mk [digB ((n : Int) % 10)].toArray = g at *
      clear ih
      go_enter Tryd.func41, Tryd.ntmps41
      go_wp2
      go_ret
      exact ⟨rfl, Stay.refl _⟩
    · have hi := fun w => ih (n / 10) (by omega) w (by omega)
      have e : ByteArray.mk (Lib.decDigits n).toArray = ByteArray.mk (Lib.decDigits (n / 10)).toArray ++ ByteArray.mk [digB ((n : Int) % 10)].toArray := by
        rw [mk_app]
        conv => lhs; rw [Lib.decDigits, dif_neg h]
        unfold digB
        rw [show ((n : Int) % 10).toNat = n % 10 by omega]
      have hs1 : (ByteArray.mk (Lib.decDigits (n / 10)).toArray).size ≤ 20 := by
        have := dec_len 19 (n / 10) (by show _ < 100000000000000000000; omega)
        exact this
      have hs2 : (ByteArray.mk [digB ((n : Int) % 10)].toArray).size = 1 := rfl
      rw [e]
      have hc : ((n / 10 : Nat) : Int) = (n : Int) / 10 := by omega
      simp only [hc] at hi
      generalize ByteArray.mk [digB ((n : Int) % 10)].toArray = g at *
      generalize ByteArray.mk (Lib.decDigits (n / 10)).toArray = f at *
      clear ih e hc
      go_enter Tryd.func41, Tryd.ntmps41
      go_wp2_with (go_at_call 41; refine (hi _).mono ?_; rintro e w1 ⟨rfl, hg⟩)
      go_ret
      exact ⟨rfl, hg⟩
end Go.Proofs.YtcpgamhekelamaaDoor
