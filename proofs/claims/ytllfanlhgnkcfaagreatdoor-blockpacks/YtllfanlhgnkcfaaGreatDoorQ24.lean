/-
  Vlaw.
-/
import Derived.Test.YtllfanlhgnkcfaaGreatDoorQ09
import Derived.Deep.RegionHeld3
import Derived.Handy
namespace Go.Proofs.YtllfanlhgnkcfaaGreatDoor.U
open Go.RowKit Go.Proofs.Lys
set_option linter.unusedVariables false
theorem bytes_conv {w : World} {v : Value} {bs : List UInt8} (h : SrcOf w v (bs.map bV)) : (convert 28 9 v).run Tryz.prog w = .ok (.string ⟨bs.toArray⟩) w := by
 rcases h with ⟨rfl, e⟩ | ⟨a, c, rfl, hc⟩
 ·have : bs = [] := List.map_eq_nil_iff.1 e
  subst this
  exact run_convert_bytes_nil (P := Tryz.prog) w 28 5 Tryz.underlying28 Tryz.underlying5 0 0 9 Tryz.underlying9
 ·rw [List.length_map]
  refine run_convert_bytes_back (P := Tryz.prog) w 28 9 5 a c bs Tryz.underlying28 Tryz.underlying5 Tryz.underlying9 (fun j hj => ?_)
  exact hc j _ (by rw [List.getElem?_map, List.getElem?_eq_getElem hj]; rfl)
abbrev PutPost (w : World) (bs : List UInt8) (e : Ending) (w' : World) : Prop := ∃ v, e = .returned v ∧ w'.ownsRow w.heap.size 5 1 v bs.length (bs.map bV) ∧ Kept w w'
theorem signed_any (w : World) (x : Int) (h : In64 x) : Calls Tryz.prog 49 #[.int .i64 x] w (PutPost w (putN (zigN x))) := by
 have hz := zig_any w x h
 have hp := put_any w (wrap64 (zigN x : Int))
 rw [uN_wrap64 (zigN_lt h)] at hp
 have HP := hid hp
 generalize putN (zigN x) = bs at HP ⊢
 generalize wrap64 (zigN x : Int) = z at hz HP
 clear hp
 go_enter Tryz.func49, Tryz.ntmps49
 go_wp2_with fail
 refine hz.mono ?_
 rintro e w1 ⟨rfl, hw⟩
 replace hw := hw.symm
 subst hw
 go_wp2_with fail
 refine HP.out.mono ?_
 rintro e w2 ⟨v, rfl, ho, hk⟩
 go_wp2_with fail
 go_ret
 exact ⟨v, rfl, ho, hk⟩
theorem rsigned_any (w : World) (x : Int) (h : In64 x) : Calls Tryz.prog 26 #[.int .i64 x] w (PutPost w (putN (zigN x))) := by
 have hz := rzig_any w x h
 have hp := rput_any w (wrap64 (zigN x : Int))
 rw [uN_wrap64 (zigN_lt h)] at hp
 have HP := hid hp
 generalize putN (zigN x) = bs at HP ⊢
 generalize wrap64 (zigN x : Int) = z at hz HP
 clear hp
 go_enter Tryz.func26, Tryz.ntmps26
 go_wp2_with fail
 refine hz.mono ?_
 rintro e w1 ⟨rfl, hw⟩
 replace hw := hw.symm
 subst hw
 go_wp2_with fail
 refine HP.out.mono ?_
 rintro e w2 ⟨v, rfl, ho, hk⟩
 go_wp2_with fail
 go_ret
 exact ⟨v, rfl, ho, hk⟩
theorem getA_cases (l : List UInt8) : ∀ i n, n < 2 ^ (7 * i) → n < 18446744073709551616 → (getA l i n = (0, 0, 5) ∨ ∃ u k, getA l i n = (u, k, 0) ∧ u < 18446744073709551616 ∧ k ≤ i + l.length) := by
 induction l with
 | nil => intro i n _ _; exact .inl rfl
 | cons c t ih =>
  intro i n h1 h2
  by_cases ho : 10 ≤ i ∨ (i = 9 ∧ 1 < c.toNat % 128)
  ·exact .inl (getA_over ho)
  ·have hi : i ≤ 9 := by omega
   have hp : c.toNat % 128 < 128 := by omega
   have hw := piece_word h1 hp hi (by omega)
   by_cases hm : 128 ≤ c.toNat
   ·rw [getA_go hi (by omega) hm]
    rcases ih (i + 1) _ (piece_lt h1 hp) hw with h | ⟨u, k, h, hu, hk⟩
    ·exact .inl h
    ·exact .inr ⟨u, k, h, hu, by rw [List.length_cons]; omega⟩
   ·by_cases hz : c.toNat = 0 ∧ 0 < i
    ·exact .inl (getA_nought hi hz.1 hz.2)
    ·exact .inr ⟨_, _, getA_last hi (by omega) (by omega) (by omega), hw, by rw [List.length_cons]; omega⟩
end Go.Proofs.YtllfanlhgnkcfaaGreatDoor.U
