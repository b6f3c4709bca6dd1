/-
  What package floats prints of a fixed-point number, and the document's examples.
-/
import Derived.Test.YtcpgamhekelamaaDoorFfrac
import Derived.Lib.AppendIntMem
import Derived.Lib.SmallJoins
namespace Go.Proofs.YtcpgamhekelamaaDoor
open Go.RowKit
set_option linter.unusedVariables false

def showL (x : Int) : List UInt8 := if x < 0 then 45 :: (Lib.decDigits (-x / 4294967296).toNat ++ fracT (-x % 4294967296)) else Lib.decDigits (x / 4294967296).toNat ++ fracT (x % 4294967296)

theorem dec_len (k : Nat) : ∀ u : Nat, u < 10 ^ (k + 1) → (Lib.decDigits u).length ≤ k + 1 := by
  induction k with
  | zero => intro u h; rw [Lib.decDigits, dif_pos (by simpa using h)]; simp
  | succ k ih =>
    intro u h
    rw [Lib.decDigits]
    split
    · simp
    · rw [List.length_append]
      have := ih (u / 10) (by rw [Nat.pow_succ] at h; omega)
      simp
      omega
theorem frac_len : ∀ (n : Nat) (f : Int), (fracL n f).length ≤ n
  | 0, _ => by simp [fracL]
  | n + 1, f => by
    unfold fracL
    split
    · simp
    · rw [List.length_cons]; have := frac_len n (f * 10 % 4294967296); omega
theorem fracT_len (f : Int) : (fracT f).length ≤ 33 := by
  unfold fracT
  split
  · simp
  · rw [List.length_cons]; have := frac_len 32 f; omega
theorem mk_app (a b : List UInt8) : (ByteArray.mk a.toArray) ++ (ByteArray.mk b.toArray) = ByteArray.mk (a ++ b).toArray := by
  apply ByteArray.ext
  rw [ByteArray.data_append]
  simp

theorem show_pos (x q r : Int) (a b : ByteArray) (w : World) (h0 : 0 ≤ x) (h1 : x ≤ 9223372036854775807) (hw : floorZ x = q) (ho : ofZ q = q * 4294967296) (hs : x - q * 4294967296 = r) (q0 : 0 ≤ q) (q1 : q ≤ 2147483647)
    (hsa : a.size ≤ 100) (hsb : b.size ≤ 100)
    (hi : ∀ w', Stay w w' → Calls Tryd.prog 36 #[.int .i64 q] w' fun e w'' => e = .returned (.string a) ∧ Stay w' w'')
    (hfr : ∀ w, Calls Tryd.prog 37 #[.int .i64 r] w fun e w' => e = .returned (.string b) ∧ Stay w w') :
    Calls Tryd.prog 21 #[.int .i64 x] w fun e w' => e = .returned (.string (a ++ b)) ∧ Stay w w' := by
  go_enter Tryd.func21, Tryd.ntmps21
  go_wp2_with (first | (go_at_call 39; refine (floor_any _ _ (by omega) (by omega)).mono ?_; rintro e w' ⟨rfl, rfl⟩; rewrite [hw]) | (go_at_call 38; refine (of_any _ _ (by omega) (by omega)).mono ?_; rintro e w' ⟨rfl, rfl⟩; rewrite [ho]) | (go_at_call 36; refine (hi _ (Stay.refl _)).mono ?_; rintro e w1 ⟨rfl, hg1⟩) | (go_at_call 37; refine (hfr _).mono ?_; rintro e w2 ⟨rfl, hg2⟩))
  go_ret
  exact ⟨rfl, hg1.trans hg2⟩

theorem show_neg (x p q r : Int) (a b c : ByteArray) (w : World) (h0 : -9223372036854775808 ≤ x) (h1 : x < 0) (hw : ceilZ x = p) (hn : -p = q) (ho : ofZ p = p * 4294967296) (hs : p * 4294967296 - x = r) (p0 : -2147483648 ≤ p) (p1 : p ≤ 0) (r0 : 0 ≤ r) (r1 : r < 4294967296)
    (hsa : a.size ≤ 100) (hc : ByteArray.mk #[45] ++ a = c) (hsc : c.size ≤ 101) (hsb : b.size ≤ 100)
    (hi : ∀ w', Stay w w' → Calls Tryd.prog 36 #[.int .i64 q] w' fun e w'' => e = .returned (.string a) ∧ Stay w' w'')
    (hfr : ∀ w, Calls Tryd.prog 37 #[.int .i64 r] w fun e w' => e = .returned (.string b) ∧ Stay w w') :
    Calls Tryd.prog 21 #[.int .i64 x] w fun e w' => e = .returned (.string (c ++ b)) ∧ Stay w w' := by
  go_enter Tryd.func21, Tryd.ntmps21
  go_wp2_with (first | (go_at_call 35; refine (ceil_any _ _ (by omega) (by omega)).mono ?_; rintro e w' ⟨rfl, rfl⟩; rewrite [hw]) | (go_at_call 38; refine (of_any _ _ (by omega) (by omega)).mono ?_; rintro e w' ⟨rfl, rfl⟩; rewrite [ho]) | (go_at_call 36; refine (hi _ (Stay.refl _)).mono ?_; rintro e w1 ⟨rfl, hg1⟩) | (go_at_call 37; refine (hfr _).mono ?_; rintro e w2 ⟨rfl, hg2⟩))
  go_ret
  exact ⟨rfl, hg1.trans hg2⟩

theorem show_by (x : Int) (w : World) (h0 : -9223372036854775808 ≤ x) (h1 : x ≤ 9223372036854775807)
    (hi : ∀ (q : Int) w', 0 ≤ q → q ≤ 2147483648 → q ≤ absZ x / 4294967296 → Stay w w' → Calls Tryd.prog 36 #[.int .i64 q] w' fun e w'' => e = .returned (.string ⟨(Lib.decDigits q.toNat).toArray⟩) ∧ Stay w' w'') :
    Calls Tryd.prog 21 #[.int .i64 x] w fun e w' => e = .returned (.string ⟨(showL x).toArray⟩) ∧ Stay w w' := by
  have hl : ∀ q : Int, 0 ≤ q → q ≤ 2147483648 → (ByteArray.mk (Lib.decDigits q.toNat).toArray).size ≤ 100 := fun q _ _ => by
    have := dec_len 9 q.toNat (by show _ < 10 ^ 10; omega)
    show (Lib.decDigits q.toNat).length ≤ 100
    omega
  have hf : ∀ r : Int, (ByteArray.mk (fracT r).toArray).size ≤ 100 := fun r => by
    have := fracT_len r
    show (fracT r).length ≤ 100
    omega
  unfold showL
  by_cases hx : x < 0
  · rw [if_pos hx]
    have ha : absZ x = -x := abs_neg hx
    have := show_neg x (-(-x / 4294967296)) (-x / 4294967296) (-x % 4294967296) ⟨(Lib.decDigits (-x / 4294967296).toNat).toArray⟩ ⟨(fracT (-x % 4294967296)).toArray⟩ ⟨(45 :: Lib.decDigits (-x / 4294967296).toNat).toArray⟩ w h0 hx rfl (by omega)
      (by unfold ofZ; rw [cut_in (by omega) (by omega)]) (by omega) (by omega) (by omega) (by omega) (by omega) (hl _ (by omega) (by omega)) (mk_app [45] _) (by have := hl (-x / 4294967296) (by omega) (by omega); show (Lib.decDigits (-x / 4294967296).toNat).length + 1 ≤ 101; have : (Lib.decDigits (-x / 4294967296).toNat).length ≤ 100 := this; omega) (hf _)
      (fun w' hg => hi _ w' (by omega) (by omega) (by omega) hg) (fun w => frac_any _ w (by omega) (by omega))
    rw [mk_app] at this
    exact this
  · rw [if_neg hx]
    have ha : absZ x = x := abs_pos (by omega)
    have := show_pos x (x / 4294967296) (x % 4294967296) ⟨(Lib.decDigits (x / 4294967296).toNat).toArray⟩ ⟨(fracT (x % 4294967296)).toArray⟩ w (by omega) h1 rfl
      (by unfold ofZ; rw [cut_in (by omega) (by omega)]) (by omega) (by omega) (by omega) (hl _ (by omega) (by omega)) (hf _)
      (fun w' hg => hi _ w' (by omega) (by omega) (by omega) hg) (fun w => frac_any _ w (by omega) (by omega))
    rw [mk_app] at this
    exact this

theorem show_small (x : Int) (w : World) (h0 : -429496729600 < x) (h1 : x < 429496729600) :
    Calls Tryd.prog 21 #[.int .i64 x] w fun e w' => e = .returned (.string ⟨(showL x).toArray⟩) ∧ Stay w w' := by
  refine show_by x w (by omega) (by omega) fun q w' q0 _ q1 _ => ?_
  have hq : q < 100 := by unfold absZ at q1; omega
  have := Tryd.strconv_Itoa_small q.toNat (by omega) w'
  rw [show ((q.toNat : Nat) : Int) = q by omega] at this
  refine this.mono ?_
  rintro e w1 ⟨rfl, rfl⟩
  exact ⟨rfl, Stay.refl _⟩

theorem pow_global : Tryd.prog.globalNamed "internal/strconv.uint64pow10" = some 2 := by kernel_rfl
theorem show_tab (x : Int) (w : World) (h0 : -9223372036854775808 ≤ x) (h1 : x ≤ 9223372036854775807) (ht : Lib.TabIs Tryd.prog w "internal/strconv.uint64pow10" .u64 Lib.pow10Tab) :
    Calls Tryd.prog 21 #[.int .i64 x] w fun e w' => e = .returned (.string ⟨(showL x).toArray⟩) ∧ Stay w w' := by
  refine show_by x w h0 h1 fun q w' q0 q1 _ hg => ?_
  have := Tryd.strconv_Itoa q (by omega) (by omega) w' (Joins.tab_stays pow_global ht hg (Nat.le_refl _))
  refine this.mono ?_
  rintro e w1 ⟨rfl, k, os, rfl⟩
  refine ⟨?_, Lib.below_grow _ _ (Nat.le_refl _) k os⟩
  unfold Lib.itoa
  rw [if_neg (by omega)]
end Go.Proofs.YtcpgamhekelamaaDoor
