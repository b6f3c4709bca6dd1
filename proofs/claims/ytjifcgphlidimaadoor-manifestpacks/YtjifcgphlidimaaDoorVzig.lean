/-
  varint.Zig, Zag and the document's own; Signed, GetSigned.
-/
import Derived.Test.YtjifcgphlidimaaDoorVget
namespace Go.Proofs.YtjifcgphlidimaaDoor.U
open Go.RowKit Go.Proofs.Lys
set_option linter.unusedVariables false

/-- The number without a sign of a number, as its 64 bits. -/
def zigN (x : Int) : Nat := if x < 0 then (-2 * x - 1).toNat else (2 * x).toNat
/-- The number of which u is the Zig. -/
def zagI (u : Nat) : Int := if u % 2 = 1 then -((u / 2 : Nat) : Int) - 1 else ((u / 2 : Nat) : Int)
abbrev In64 (x : Int) : Prop := -9223372036854775808 ≤ x ∧ x ≤ 9223372036854775807

theorem zigN_lt {x : Int} (h : In64 x) : zigN x < 18446744073709551616 := by
  unfold zigN
  split <;> omega
theorem zag_zig {x : Int} (h : In64 x) : zagI (zigN x) = x := by
  unfold zagI zigN
  split <;> split <;> omega
theorem zag_in {u : Nat} (h : u < 18446744073709551616) : In64 (zagI u) := by
  unfold zagI
  split <;> constructor <;> omega
theorem zig_zag {u : Nat} (h : u < 18446744073709551616) : zigN (zagI u) = u := by
  unfold zagI zigN
  split <;> split <;> omega
theorem uN_back {x : Int} (h : In64 x) : wrap64 ((uN x : Nat) : Int) = x := by
  unfold wrap64 uN
  omega
theorem uN_wrap64 {u : Nat} (h : u < 18446744073709551616) : uN (wrap64 (u : Int)) = u := by
  unfold wrap64 uN
  omega
theorem wrap64_in (x : Int) : In64 (wrap64 x) := by
  unfold wrap64
  constructor <;> omega

theorem cast_eq {a b : Nat} (h : a = b) : (a : Int) = (b : Int) := by rw [h]
theorem xor_ones (a : Nat) (h : a < 18446744073709551616) : bits .xor .u64 (a : Int) 18446744073709551615 = ((18446744073709551615 - a : Nat) : Int) := by
  have h2 := u64_xor_nat a 18446744073709551615 h (by decide)
  rw [show (18446744073709551615 : Int) = ((18446744073709551615 : Nat) : Int) from rfl, h2]
  congr 1
  have h3 := BitVec.toNat_not (x := BitVec.ofNat 64 a)
  have h4 : ~~~(BitVec.ofNat 64 a) = BitVec.ofNat 64 a ^^^ BitVec.allOnes 64 := by rw [BitVec.xor_allOnes]
  rw [h4, BitVec.toNat_xor, BitVec.toNat_allOnes, BitVec.toNat_ofNat, Nat.mod_eq_of_lt h] at h3
  have e : (2 : Nat) ^ 64 = 18446744073709551616 := by decide
  rw [e] at h3
  simpa using h3
theorem xor_none (a : Nat) (h : a < 18446744073709551616) : bits .xor .u64 (a : Int) 0 = (a : Int) := by
  have h2 := u64_xor_nat a 0 h (by decide)
  simpa using h2

set_option maxRecDepth 100000 in
theorem zig_any (w : World) (x : Int) (h : In64 x) : Calls Tryd.prog 47 #[.int .i64 x] w fun e w' => e = .returned (.int .i64 (wrap64 (zigN x : Int))) ∧ w' = w := by
  obtain ⟨h0, h1⟩ := h
  by_cases hx : x < 0
  · have hU := uN_wrap x
    have e1 : IntKind.u64.wrap (((uN x : Nat) : Int) * 2) = ((2 * uN x - 18446744073709551616 : Nat) : Int) := by
      rw [uN_wrap]
      exact cast_eq (by unfold uN; omega)
    have e2 : x / 9223372036854775808 = -1 := by omega
    have e5 : IntKind.u64.wrap (-1) = 18446744073709551615 := by decide
    have e3 := xor_ones (2 * uN x - 18446744073709551616) (by unfold uN; omega)
    have e4 : 18446744073709551615 - (2 * uN x - 18446744073709551616) = zigN x := by unfold uN zigN; rw [if_pos hx]; omega
    rw [e4] at e3
    generalize zigN x = z at e3 ⊢
    generalize 2 * uN x - 18446744073709551616 = a at e1 e3
    generalize uN x = U at hU e1
    clear e4
    go_enter Tryd.func47, Tryd.ntmps47
    go_wp2
    go_ret
    exact ⟨rfl, rfl⟩
  · have hU := uN_wrap x
    have e1 : IntKind.u64.wrap (((uN x : Nat) : Int) * 2) = ((zigN x : Nat) : Int) := by
      rw [uN_wrap]
      exact cast_eq (by unfold uN zigN; rw [if_neg hx]; omega)
    have e2 : x / 9223372036854775808 = 0 := by omega
    have e3 := xor_none (zigN x) (zigN_lt ⟨h0, h1⟩)
    generalize zigN x = z at e1 e3 ⊢
    generalize uN x = U at hU e1
    go_enter Tryd.func47, Tryd.ntmps47
    go_wp2
    go_ret
    exact ⟨rfl, rfl⟩

theorem not_word (a : Nat) (h : a < 18446744073709551616) : bits .xor .u64 IntKind.u64.max (a : Int) = ((18446744073709551615 - a : Nat) : Int) := by
  have e : IntKind.u64.max = ((18446744073709551615 : Nat) : Int) := by decide
  have h2 := u64_xor_nat 18446744073709551615 a (by decide) h
  have h3 := xor_ones a h
  rw [show (18446744073709551615 : Int) = ((18446744073709551615 : Nat) : Int) from rfl, u64_xor_nat a _ h (by decide), Nat.xor_comm] at h3
  rw [e, h2, h3]

set_option maxRecDepth 100000 in
theorem rzig_any (w : World) (x : Int) (h : In64 x) : Calls Tryd.prog 39 #[.int .i64 x] w fun e w' => e = .returned (.int .i64 (wrap64 (zigN x : Int))) ∧ w' = w := by
  obtain ⟨h0, h1⟩ := h
  by_cases hx : x < 0
  · have hU := uN_wrap x
    have e1 : IntKind.u64.wrap (((uN x : Nat) : Int) * 2) = ((2 * uN x - 18446744073709551616 : Nat) : Int) := by
      rw [uN_wrap]
      exact cast_eq (by unfold uN; omega)
    have e3 := not_word (2 * uN x - 18446744073709551616) (by unfold uN; omega)
    have e4 : 18446744073709551615 - (2 * uN x - 18446744073709551616) = zigN x := by unfold uN zigN; rw [if_pos hx]; omega
    rw [e4] at e3
    generalize zigN x = z at e3 ⊢
    generalize 2 * uN x - 18446744073709551616 = a at e1 e3
    generalize uN x = U at hU e1
    clear e4
    go_enter Tryd.func39, Tryd.ntmps39
    go_wp2
    go_ret
    exact ⟨rfl, rfl⟩
  · have hU := uN_wrap x
    have e1 : IntKind.u64.wrap (((uN x : Nat) : Int) * 2) = ((zigN x : Nat) : Int) := by
      rw [uN_wrap]
      exact cast_eq (by unfold uN zigN; rw [if_neg hx]; omega)
    generalize zigN x = z at e1 ⊢
    generalize uN x = U at hU e1
    go_enter Tryd.func39, Tryd.ntmps39
    go_wp2
    go_ret
    exact ⟨rfl, rfl⟩

theorem and_odd (u : Nat) (h : u < 18446744073709551616) : bits .and .u64 (u : Int) 1 = ((u % 2 : Nat) : Int) := by
  have h2 := u64_and_nat u 1 h (by decide)
  rw [show (1 : Int) = ((1 : Nat) : Int) from rfl, h2, Nat.and_one_is_mod]

set_option maxRecDepth 100000 in
theorem zag_any (w : World) (x : Int) : Calls Tryd.prog 52 #[.int .i64 x] w fun e w' => e = .returned (.int .i64 (zagI (uN x))) ∧ w' = w := by
  have hU := uN_wrap x
  have hUl := uN_lt x
  generalize uN x = U at hU hUl ⊢
  have ha := and_odd U hUl
  obtain ⟨q, hq⟩ : ∃ q : Nat, (U : Int) / 2 = (q : Int) := ⟨U / 2, by omega⟩
  by_cases hodd : U % 2 = 1
  · rw [hodd] at ha
    have e1 : IntKind.u64.wrap (-1) = 18446744073709551615 := by decide
    have e2 := xor_ones q (by omega)
    have e3 : wrap64 ((18446744073709551615 - q : Nat) : Int) = zagI U := by unfold zagI wrap64; rw [if_pos hodd]; omega
    generalize zagI U = z at e3 ⊢
    generalize 18446744073709551615 - q = b at e2 e3
    have H3 := hid e3
    clear hodd e3
    go_enter Tryd.func52, Tryd.ntmps52
    go_wp2
    go_ret
    rw [← H3.out]
    exact ⟨rfl, rfl⟩
  · rw [show U % 2 = 0 by omega] at ha
    have e2 := xor_none q (by omega)
    have e3 : (q : Int) = zagI U := by unfold zagI; rw [if_neg hodd]; omega
    have H3 := hid e3
    clear hodd e3
    go_enter Tryd.func52, Tryd.ntmps52
    go_wp2
    go_ret
    rw [← H3.out]
    exact ⟨rfl, rfl⟩

set_option maxRecDepth 100000 in
theorem rzag_any (w : World) (x : Int) : Calls Tryd.prog 46 #[.int .i64 x] w fun e w' => e = .returned (.int .i64 (zagI (uN x))) ∧ w' = w := by
  have hU := uN_wrap x
  have hUl := uN_lt x
  generalize uN x = U at hU hUl ⊢
  have ha := and_odd U hUl
  obtain ⟨q, hq⟩ : ∃ q : Nat, (U : Int) / 2 = (q : Int) := ⟨U / 2, by omega⟩
  by_cases hodd : U % 2 = 1
  · rw [hodd] at ha
    have e2 := not_word q (by omega)
    have e3 : wrap64 ((18446744073709551615 - q : Nat) : Int) = zagI U := by unfold zagI wrap64; rw [if_pos hodd]; omega
    generalize zagI U = z at e3 ⊢
    generalize 18446744073709551615 - q = b at e2 e3
    have H3 := hid e3
    clear hodd e3
    go_enter Tryd.func46, Tryd.ntmps46
    go_wp2
    go_ret
    rw [← H3.out]
    exact ⟨rfl, rfl⟩
  · rw [show U % 2 = 0 by omega] at ha
    have e3 : (q : Int) = zagI U := by unfold zagI; rw [if_neg hodd]; omega
    have H3 := hid e3
    clear hodd e3
    go_enter Tryd.func46, Tryd.ntmps46
    go_wp2
    go_ret
    rw [← H3.out]
    exact ⟨rfl, rfl⟩
end Go.Proofs.YtjifcgphlidimaaDoor.U
