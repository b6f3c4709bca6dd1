/-
  Signed, GetSigned, the document's own; the document's examples.
-/
import Derived.Test.YtjjjkioicdebhaaVzig
import Derived.Deep.RegionHeld3
import Derived.Handy
namespace Go.Proofs.Ytjjjkioicdebhaa.U
open Go.RowKit Go.Proofs.Lys
set_option linter.unusedVariables false

theorem bytes_conv {w : World} {v : Value} {bs : List UInt8} (h : SrcOf w v (bs.map bV)) : (convert 22 9 v).run Try.prog w = .ok (.string ⟨bs.toArray⟩) w := by
  rcases h with ⟨rfl, e⟩ | ⟨a, c, rfl, hc⟩
  · have : bs = [] := List.map_eq_nil_iff.1 e
    subst this
    exact run_convert_bytes_nil (P := Try.prog) w 22 5 Try.underlying22 Try.underlying5 0 0 9 Try.underlying9
  · rw [List.length_map] 
    refine run_convert_bytes_back (P := Try.prog) w 22 9 5 a c bs Try.underlying22 Try.underlying5 Try.underlying9 (fun j hj => ?_)
    exact hc j _ (by rw [List.getElem?_map, List.getElem?_eq_getElem hj]; rfl)

theorem num_any (n : Int) (w : World) : Calls Try.prog 14 #[.int .i64 n] w fun e w' => e = .returned (.int .i64 n) ∧ w' = w := by
  go_enter Try.func14, Try.ntmps14
  go_wp2
  go_ret
  exact ⟨rfl, rfl⟩

/-- What a call that puts answers: a row of its own. -/
abbrev PutPost (w : World) (bs : List UInt8) (e : Ending) (w' : World) : Prop := ∃ v, e = .returned v ∧ w'.ownsRow w.heap.size 5 1 v bs.length (bs.map bV) ∧ Kept w w'

theorem signed_any (w : World) (x : Int) (h : In64 x) : Calls Try.prog 9 #[.int .i64 x] w (PutPost w (putN (zigN x))) := by
  have hz := zig_any w x h
  have hp := put_any w (wrap64 (zigN x : Int))
  rw [uN_wrap64 (zigN_lt h)] at hp
  have HP := hid hp
  generalize putN (zigN x) = bs at HP ⊢
  generalize wrap64 (zigN x : Int) = z at hz HP
  clear hp
  go_enter Try.func9, Try.ntmps9
  go_wp2_with fail
  refine hz.mono ?_
  rintro e w1 ⟨rfl, hw⟩
  replace hw := hw.symm
  subst hw
  go_wp2_with fail
  refine HP.out.mono ?_
  rintro e w2 ⟨v, rfl, ho, hk⟩
  go_wp2_with fail
  go_ret
  exact ⟨v, rfl, ho, hk⟩
theorem rsigned_any (w : World) (x : Int) (h : In64 x) : Calls Try.prog 13 #[.int .i64 x] w (PutPost w (putN (zigN x))) := by
  have hz := rzig_any w x h
  have hp := rput_any w (wrap64 (zigN x : Int))
  rw [uN_wrap64 (zigN_lt h)] at hp
  have HP := hid hp
  generalize putN (zigN x) = bs at HP ⊢
  generalize wrap64 (zigN x : Int) = z at hz HP
  clear hp
  go_enter Try.func13, Try.ntmps13
  go_wp2_with fail
  refine hz.mono ?_
  rintro e w1 ⟨rfl, hw⟩
  replace hw := hw.symm
  subst hw
  go_wp2_with fail
  refine HP.out.mono ?_
  rintro e w2 ⟨v, rfl, ho, hk⟩
  go_wp2_with fail
  go_ret
  exact ⟨v, rfl, ho, hk⟩

theorem getA_cases (l : List UInt8) : ∀ i n, n < 2 ^ (7 * i) → n < 18446744073709551616 → (getA l i n = (0, 0, 5) ∨ ∃ u k, getA l i n = (u, k, 0) ∧ u < 18446744073709551616 ∧ k ≤ i + l.length) := by
  induction l with
  | nil => intro i n _ _; exact .inl rfl
  | cons c t ih =>
    intro i n h1 h2
    by_cases ho : 10 ≤ i ∨ (i = 9 ∧ 1 < c.toNat % 128)
    · exact .inl (getA_over ho)
    · have hi : i ≤ 9 := by omega
      have hp : c.toNat % 128 < 128 := by omega
      have hw := piece_word h1 hp hi (by omega)
      by_cases hm : 128 ≤ c.toNat
      · rw [getA_go hi (by omega) hm]
        rcases ih (i + 1) _ (piece_lt h1 hp) hw with h | ⟨u, k, h, hu, hk⟩
        · exact .inl h
        · exact .inr ⟨u, k, h, hu, by rw [List.length_cons]; omega⟩
      · by_cases hz : c.toNat = 0 ∧ 0 < i
        · exact .inl (getA_nought hi hz.1 hz.2)
        · exact .inr ⟨_, _, getA_last hi (by omega) (by omega) (by omega), hw, by rw [List.length_cons]; omega⟩

/-- What GetSigned answers. -/
def gotS (x : Nat × Nat × Nat) : Value := if x.2.2 = 0 then .tuple #[.int .i64 (zagI x.1), .int .i64 (x.2.1 : Int), .int .i64 0] else .tuple #[.int .i64 0, .int .i64 0, .int .i64 (x.2.2 : Int)]

theorem getS_any (w : World) (v : Value) (bs : List UInt8) (hs : SrcOf w v (bs.map bV)) (hl : bs.length ≤ 1000000) :
    Calls Try.prog 11 #[v] w fun e w' => e = .returned (gotS (getA bs 0 0)) ∧ w' = w := by
  have hg := get_any w v bs hs hl
  rcases getA_cases bs 0 0 (by decide) (by decide) with h | ⟨u, k, h, hu, hk⟩
  · rw [h, got_err] at hg
    rw [h, show gotS (0, 0, 5) = .tuple #[.int .i64 0, .int .i64 0, .int .i64 5] from rfl]
    clear h hs
    go_enter Try.func11, Try.ntmps11
    go_wp2_with fail
    refine hg.mono ?_
    rintro e w1 ⟨rfl, hw⟩
    replace hw := hw.symm
    subst hw
    go_wp2_with fail
    go_ret3
    exact ⟨rfl, rfl⟩
  · rw [h, show got (u, k, 0) = .tuple #[.int .i64 (wrap64 (u : Int)), .int .i64 (k : Int), .int .i64 0] from rfl] at hg
    rw [h, show gotS (u, k, 0) = .tuple #[.int .i64 (zagI u), .int .i64 (k : Int), .int .i64 0] from rfl]
    have hz := zag_any w (wrap64 (u : Int))
    rw [uN_wrap64 hu] at hz
    generalize wrap64 (u : Int) = x at hg hz
    generalize zagI u = z at hz ⊢
    clear h hs hu
    go_enter Try.func11, Try.ntmps11
    go_wp2_with fail
    refine hg.mono ?_
    rintro e w1 ⟨rfl, hw⟩
    replace hw := hw.symm
    subst hw
    go_wp2_with fail
    refine hz.mono ?_
    rintro e w1 ⟨rfl, hw⟩
    replace hw := hw.symm
    subst hw
    go_wp2_with fail
    go_ret3
    exact ⟨rfl, rfl⟩
theorem rgetS_any (w : World) (v : Value) (bs : List UInt8) (hs : SrcOf w v (bs.map bV)) (hl : bs.length ≤ 1000000) :
    Calls Try.prog 16 #[v] w fun e w' => e = .returned (gotS (getA bs 0 0)) ∧ w' = w := by
  have hg := rget_any w v bs hs hl
  rcases getA_cases bs 0 0 (by decide) (by decide) with h | ⟨u, k, h, hu, hk⟩
  · rw [h, got_err] at hg
    rw [h, show gotS (0, 0, 5) = .tuple #[.int .i64 0, .int .i64 0, .int .i64 5] from rfl]
    clear h hs
    go_enter Try.func16, Try.ntmps16
    go_wp2_with fail
    refine hg.mono ?_
    rintro e w1 ⟨rfl, hw⟩
    replace hw := hw.symm
    subst hw
    go_wp2_with fail
    go_ret3
    exact ⟨rfl, rfl⟩
  · rw [h, show got (u, k, 0) = .tuple #[.int .i64 (wrap64 (u : Int)), .int .i64 (k : Int), .int .i64 0] from rfl] at hg
    rw [h, show gotS (u, k, 0) = .tuple #[.int .i64 (zagI u), .int .i64 (k : Int), .int .i64 0] from rfl]
    have hz := rzag_any w (wrap64 (u : Int))
    rw [uN_wrap64 hu] at hz
    generalize wrap64 (u : Int) = x at hg hz
    generalize zagI u = z at hz ⊢
    clear h hs hu
    go_enter Try.func16, Try.ntmps16
    go_wp2_with fail
    refine hg.mono ?_
    rintro e w1 ⟨rfl, hw⟩
    replace hw := hw.symm
    subst hw
    go_wp2_with fail
    refine hz.mono ?_
    rintro e w1 ⟨rfl, hw⟩
    replace hw := hw.symm
    subst hw
    go_wp2_with fail
    go_ret3
    exact ⟨rfl, rfl⟩

theorem alive_put : putN (uN 300) = [172, 2] := by
  rw [show uN 300 = 300 from rfl, putN_big (by decide), putN_small (by decide)]
  rfl
theorem alive_zig : wrap64 (zigN (-1) : Int) = 1 := by simp [wrap64, zigN]

set_option maxRecDepth 100000 in
theorem alive_any (w : World) : Calls Try.prog 7 #[] w fun e w' => e = .returned (.bool true) ∧ Kept w w' := by
  have hs : SrcOf (w.alloc (.cells #[.int .u8 128, .int .u8 0] 5)) (.slice (some ⟨w.heap.size, 0, none⟩) 2 2) (([128, 0] : List UInt8).map bV) :=
    own_src (World.ownsRow_lit w #[.int .u8 128, .int .u8 0] 2 (Nat.zero_le _) (by decide) rfl)
  have hg := get_any _ _ [128, 0] hs (by decide)
  rw [show getA [128, 0] 0 0 = (0, 0, 5) by decide, got_err] at hg
  have hk0 : Kept w (w.alloc (.cells #[.int .u8 128, .int .u8 0] 5)) := (Only.refl _ w).alloc _
  have hp := put_any (w.alloc (.cells #[.int .u8 128, .int .u8 0] 5)) 300
  rw [alive_put] at hp
  have HP := hid hp
  have HK := hid hk0
  clear hp hs hk0
  go_enter Try.func7, Try.ntmps7
  go_wp2_with fail
  refine hg.mono ?_
  rintro e w1 ⟨rfl, rfl⟩
  go_wp2_with fail
  refine HP.out.mono ?_
  rintro e w2 ⟨v, rfl, ho, hk⟩
  have hc := bytes_conv (own_src ho)
  have hz := zig_any w2 (-1) (by decide)
  rw [alive_zig] at hz
  have HK2 : Hid (Kept w w2) := HK.out.trans hk (fun _ _ f => f)
  clear ho hk hg
  go_wp2_with fail
  refine hz.mono ?_
  rintro e w3 ⟨rfl, hw⟩
  replace hw := hw.symm
  subst hw
  go_wp2_with (go_at_call 14; refine (num_any _ _).mono ?_; rintro e w' ⟨rfl, hw⟩; replace hw := hw.symm; subst hw)
  go_ret
  exact ⟨rfl, HK2.out⟩

set_option maxRecDepth 100000 in
theorem zigs_walk (w : World) (n : Int) (h : In64 n) : Calls Try.prog 5 #[.int .i64 n] w fun e w' => e = .returned (.bool true) ∧ Kept w w' := by
  have z1 := fun w => zig_any w n h
  have z2 := fun w => rzig_any w n h
  have z3 := fun w => zag_any w n
  have z4 := fun w => rzag_any w n
  have z5 := fun w => zag_any w (wrap64 (zigN n : Int))
  have z6 := fun w => zig_any w (zagI (uN n)) (zag_in (uN_lt n))
  rw [uN_wrap64 (zigN_lt h), zag_zig h] at z5
  rw [zig_zag (uN_lt n), uN_back h] at z6
  generalize wrap64 (zigN n : Int) = z at z1 z2 z5
  generalize zagI (uN n) = y at z3 z4 z6
  have Z1 := hid z1
  have Z2 := hid z2
  have Z3 := hid z3
  have Z4 := hid z4
  have Z5 := hid z5
  have Z6 := hid z6
  clear z1 z2 z3 z4 z5 z6 h
  go_enter Try.func5, Try.ntmps5
  go_wp2_with fail
  refine (alive_any _).mono ?_
  rintro e w1 ⟨rfl, hk⟩
  have HK := hid hk
  clear hk
  go_wp2_with fail
  refine (Z1.out _).mono ?_
  rintro e w' ⟨rfl, hw⟩; replace hw := hw.symm; subst hw
  go_wp2_with fail
  refine (Z2.out _).mono ?_
  rintro e w' ⟨rfl, hw⟩; replace hw := hw.symm; subst hw
  go_wp2_with fail
  refine (Z3.out _).mono ?_
  rintro e w' ⟨rfl, hw⟩; replace hw := hw.symm; subst hw
  go_wp2_with fail
  refine (Z4.out _).mono ?_
  rintro e w' ⟨rfl, hw⟩; replace hw := hw.symm; subst hw
  go_wp2_with fail
  refine (Z1.out _).mono ?_
  rintro e w' ⟨rfl, hw⟩; replace hw := hw.symm; subst hw
  go_wp2_with fail
  refine (Z5.out _).mono ?_
  rintro e w' ⟨rfl, hw⟩; replace hw := hw.symm; subst hw
  go_wp2_with fail
  refine (Z3.out _).mono ?_
  rintro e w' ⟨rfl, hw⟩; replace hw := hw.symm; subst hw
  go_wp2_with fail
  refine (Z6.out _).mono ?_
  rintro e w' ⟨rfl, hw⟩; replace hw := hw.symm; subst hw
  go_wp2_with fail
  go_ret
  exact ⟨rfl, HK.out⟩

set_option maxRecDepth 100000 in
theorem gets_walk (w : World) (v : Value) (bs : List UInt8) (h : SrcOf w v (bs.map bV)) : Calls Try.prog 4 #[v] w fun e w' => e = .returned (.bool true) ∧ Kept w w' := by
  obtain ⟨a, c, e0⟩ := h.len
  rw [List.length_map] at e0
  obtain ⟨L, hL⟩ : ∃ L, bs.length = L := ⟨_, rfl⟩
  rw [hL] at e0
  subst e0
  have hnot : ∀ (x : Bool) (w : World), (Op.unary .not (.bool x)).run Try.prog w = .ok (.bool (!x)) w := fun _ _ => rfl
  by_cases hb : 1000 < L
  · go_enter Try.func4, Try.ntmps4
    go_wp2_with (go_at_call 7; refine (alive_any _).mono ?_; rintro e w1 ⟨rfl, hk⟩)
    go_ret
    exact ⟨rfl, hk⟩
  have d0 : decide ((1000 : Int) < (L : Int)) = false := by simp; omega
  have g1 := fun w (h : SrcOf w (.slice a L c) (bs.map bV)) => get_any w (.slice a L c) bs h (by omega)
  have g2 := fun w (h : SrcOf w (.slice a L c) (bs.map bV)) => rget_any w (.slice a L c) bs h (by omega)
  have g3 := fun w (h : SrcOf w (.slice a L c) (bs.map bV)) => getS_any w (.slice a L c) bs h (by omega)
  have g4 := fun w (h : SrcOf w (.slice a L c) (bs.map bV)) => rgetS_any w (.slice a L c) bs h (by omega)
  obtain ⟨x, k, e, hg⟩ : ∃ x k e : Int, got (getA bs 0 0) = .tuple #[.int .i64 x, .int .i64 k, .int .i64 e] := ⟨_, _, _, rfl⟩
  obtain ⟨y, m, f, hs⟩ : ∃ x k e : Int, gotS (getA bs 0 0) = .tuple #[.int .i64 x, .int .i64 k, .int .i64 e] := by
    unfold gotS
    split
    · exact ⟨_, _, _, rfl⟩
    · exact ⟨_, _, _, rfl⟩
  rw [hg] at g1 g2
  rw [hs] at g3 g4
  have G1 := hid g1
  have G2 := hid g2
  have G3 := hid g3
  have G4 := hid g4
  have H := hid h
  clear g1 g2 g3 g4 h hg hs hL
  go_enter Try.func4, Try.ntmps4
  go_wp2_with fail
  refine (alive_any _).mono ?_
  rintro e w1 ⟨rfl, hk⟩
  have HK := hid hk
  clear hk
  go_wp2_with fail
  refine (G1.out _ (H.out.stay HK.out)).mono ?_
  rintro e w' ⟨rfl, hw⟩; replace hw := hw.symm; subst hw
  go_wp2_with fail
  refine (G2.out _ (H.out.stay HK.out)).mono ?_
  rintro e w' ⟨rfl, hw⟩; replace hw := hw.symm; subst hw
  go_wp2_with fail
  refine (G3.out _ (H.out.stay HK.out)).mono ?_
  rintro e w' ⟨rfl, hw⟩; replace hw := hw.symm; subst hw
  go_wp2_with fail
  refine (G4.out _ (H.out.stay HK.out)).mono ?_
  rintro e w' ⟨rfl, hw⟩; replace hw := hw.symm; subst hw
  go_wp2_with (go_at_call 14; refine (num_any _ _).mono ?_; rintro e w' ⟨rfl, hw⟩; replace hw := hw.symm; subst hw)
  go_ret
  exact ⟨rfl, HK.out⟩
end Go.Proofs.Ytjjjkioicdebhaa.U
