/-
  Signed, GetSigned, the document's own; the document's examples.
-/
import Derived.Test.YtjifcgphlidimaaDoorVzig
import Derived.Deep.RegionHeld3
import Derived.Handy
namespace Go.Proofs.YtjifcgphlidimaaDoor.U
open Go.RowKit Go.Proofs.Lys
set_option linter.unusedVariables false

theorem bytes_conv {w : World} {v : Value} {bs : List UInt8} (h : SrcOf w v (bs.map bV)) : (convert 28 9 v).run Tryd.prog w = .ok (.string ⟨bs.toArray⟩) w := by
  rcases h with ⟨rfl, e⟩ | ⟨a, c, rfl, hc⟩
  · have : bs = [] := List.map_eq_nil_iff.1 e
    subst this
    exact run_convert_bytes_nil (P := Tryd.prog) w 28 5 Tryd.underlying28 Tryd.underlying5 0 0 9 Tryd.underlying9
  · rw [List.length_map] 
    refine run_convert_bytes_back (P := Tryd.prog) w 28 9 5 a c bs Tryd.underlying28 Tryd.underlying5 Tryd.underlying9 (fun j hj => ?_)
    exact hc j _ (by rw [List.getElem?_map, List.getElem?_eq_getElem hj]; rfl)

/-- What a call that puts answers: a row of its own. -/
abbrev PutPost (w : World) (bs : List UInt8) (e : Ending) (w' : World) : Prop := ∃ v, e = .returned v ∧ w'.ownsRow w.heap.size 5 1 v bs.length (bs.map bV) ∧ Kept w w'

theorem signed_any (w : World) (x : Int) (h : In64 x) : Calls Tryd.prog 37 #[.int .i64 x] w (PutPost w (putN (zigN x))) := by
  have hz := zig_any w x h
  have hp := put_any w (wrap64 (zigN x : Int))
  rw [uN_wrap64 (zigN_lt h)] at hp
  have HP := hid hp
  generalize putN (zigN x) = bs at HP ⊢
  generalize wrap64 (zigN x : Int) = z at hz HP
  clear hp
  go_enter Tryd.func37, Tryd.ntmps37
  go_wp2_with fail
  refine hz.mono ?_
  rintro e w1 ⟨rfl, hw⟩
  replace hw := hw.symm
  subst hw
  go_wp2_with fail
  refine HP.out.mono ?_
  rintro e w2 ⟨v, rfl, ho, hk⟩
  go_wp2_with fail
  go_ret
  exact ⟨v, rfl, ho, hk⟩
theorem rsigned_any (w : World) (x : Int) (h : In64 x) : Calls Tryd.prog 25 #[.int .i64 x] w (PutPost w (putN (zigN x))) := by
  have hz := rzig_any w x h
  have hp := rput_any w (wrap64 (zigN x : Int))
  rw [uN_wrap64 (zigN_lt h)] at hp
  have HP := hid hp
  generalize putN (zigN x) = bs at HP ⊢
  generalize wrap64 (zigN x : Int) = z at hz HP
  clear hp
  go_enter Tryd.func25, Tryd.ntmps25
  go_wp2_with fail
  refine hz.mono ?_
  rintro e w1 ⟨rfl, hw⟩
  replace hw := hw.symm
  subst hw
  go_wp2_with fail
  refine HP.out.mono ?_
  rintro e w2 ⟨v, rfl, ho, hk⟩
  go_wp2_with fail
  go_ret
  exact ⟨v, rfl, ho, hk⟩

theorem getA_cases (l : List UInt8) : ∀ i n, n < 2 ^ (7 * i) → n < 18446744073709551616 → (getA l i n = (0, 0, 5) ∨ ∃ u k, getA l i n = (u, k, 0) ∧ u < 18446744073709551616 ∧ k ≤ i + l.length) := by
  induction l with
  | nil => intro i n _ _; exact .inl rfl
  | cons c t ih =>
    intro i n h1 h2
    by_cases ho : 10 ≤ i ∨ (i = 9 ∧ 1 < c.toNat % 128)
    · exact .inl (getA_over ho)
    · have hi : i ≤ 9 := by omega
      have hp : c.toNat % 128 < 128 := by omega
      have hw := piece_word h1 hp hi (by omega)
      by_cases hm : 128 ≤ c.toNat
      · rw [getA_go hi (by omega) hm]
        rcases ih (i + 1) _ (piece_lt h1 hp) hw with h | ⟨u, k, h, hu, hk⟩
        · exact .inl h
        · exact .inr ⟨u, k, h, hu, by rw [List.length_cons]; omega⟩
      · by_cases hz : c.toNat = 0 ∧ 0 < i
        · exact .inl (getA_nought hi hz.1 hz.2)
        · exact .inr ⟨_, _, getA_last hi (by omega) (by omega) (by omega), hw, by rw [List.length_cons]; omega⟩

/-- What GetSigned answers. -/
def gotS (x : Nat × Nat × Nat) : Value := if x.2.2 = 0 then .tuple #[.int .i64 (zagI x.1), .int .i64 (x.2.1 : Int), .int .i64 0] else .tuple #[.int .i64 0, .int .i64 0, .int .i64 (x.2.2 : Int)]

theorem getS_any (w : World) (v : Value) (bs : List UInt8) (hs : SrcOf w v (bs.map bV)) (hl : bs.length ≤ 1000000) :
    Calls Tryd.prog 51 #[v] w fun e w' => e = .returned (gotS (getA bs 0 0)) ∧ w' = w := by
  have hg := get_any w v bs hs hl
  rcases getA_cases bs 0 0 (by decide) (by decide) with h | ⟨u, k, h, hu, hk⟩
  · rw [h, got_err] at hg
    rw [h, show gotS (0, 0, 5) = .tuple #[.int .i64 0, .int .i64 0, .int .i64 5] from rfl]
    clear h hs
    go_enter Tryd.func51, Tryd.ntmps51
    go_wp2_with fail
    refine hg.mono ?_
    rintro e w1 ⟨rfl, hw⟩
    replace hw := hw.symm
    subst hw
    go_wp2_with fail
    go_ret3
    exact ⟨rfl, rfl⟩
  · rw [h, show got (u, k, 0) = .tuple #[.int .i64 (wrap64 (u : Int)), .int .i64 (k : Int), .int .i64 0] from rfl] at hg
    rw [h, show gotS (u, k, 0) = .tuple #[.int .i64 (zagI u), .int .i64 (k : Int), .int .i64 0] from rfl]
    have hz := zag_any w (wrap64 (u : Int))
    rw [uN_wrap64 hu] at hz
    generalize wrap64 (u : Int) = x at hg hz
    generalize zagI u = z at hz ⊢
    clear h hs hu
    go_enter Tryd.func51, Tryd.ntmps51
    go_wp2_with fail
    refine hg.mono ?_
    rintro e w1 ⟨rfl, hw⟩
    replace hw := hw.symm
    subst hw
    go_wp2_with fail
    refine hz.mono ?_
    rintro e w1 ⟨rfl, hw⟩
    replace hw := hw.symm
    subst hw
    go_wp2_with fail
    go_ret3
    exact ⟨rfl, rfl⟩
theorem alive_put : putN (uN 300) = [172, 2] := by
  rw [show uN 300 = 300 from rfl, putN_big (by decide), putN_small (by decide)]
  rfl
theorem alive_zig : wrap64 (zigN (-1) : Int) = 1 := by simp [wrap64, zigN]

end Go.Proofs.YtjifcgphlidimaaDoor.U
