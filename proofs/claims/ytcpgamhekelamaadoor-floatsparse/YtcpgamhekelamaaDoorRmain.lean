/-
  The road of the document's own Parse through its loops.
-/
import Derived.Test.YtcpgamhekelamaaDoorRroadsb
import Derived.Laws.MakeOwn
import Derived.Laws.OwnMore
import Derived.OwnWalk
namespace Go.Proofs.YtcpgamhekelamaaDoor
open Go.RowKit
set_option linter.unusedVariables false

def vI (d : Int) : Value := .int .i64 d
def fillL (F : ByteArray) (m j : Nat) : List Int := (F.data.toList.take j).map digV ++ List.replicate (m - j) 0
theorem fill_set (F : ByteArray) (m j : Nat) (hj : j < F.size) (hm : F.size = m) : (fillL F m j).set j (digV F[j]) = fillL F m (j + 1) := by
  have hl : ((F.data.toList.take j).map digV).length = j := by rw [List.length_map, List.length_take, ← Lib.size_eq]; omega
  unfold fillL
  rw [List.set_append_right _ _ (by omega), hl, Nat.sub_self, take_more F j hj, List.map_append, List.append_assoc, show m - j = (m - (j + 1)) + 1 by omega, List.replicate_succ]
  rfl
theorem fill_at (F : ByteArray) (m j : Nat) (hj : j < F.size) (hm : F.size = m) : (fillL F m j)[j]? = some 0 := by
  have hl : ((F.data.toList.take j).map digV).length = j := by rw [List.length_map, List.length_take, ← Lib.size_eq]; omega
  unfold fillL
  rw [List.getElem?_append_right (by omega), hl, Nat.sub_self, show m - j = (m - (j + 1)) + 1 by omega, List.replicate_succ]
  rfl
theorem map_at (ds : List Int) (j : Nat) (d : Int) (h : ds[j]? = some d) : (ds.map vI)[j]? = some (.int .i64 d) := by rw [List.getElem?_map, h]; rfl
theorem map_set (ds : List Int) (j : Nat) (d : Int) : (ds.map vI).set j (.int .i64 d) = (ds.set j d).map vI := by rw [List.map_set]; rfl
theorem made_zero (m : Nat) : (madeCells #[Value.int .i64 0] m).toList = (List.replicate m (0 : Int)).map vI := by
  apply List.ext_getElem
  · simp [madeCells]
  · intro i h1 h2
    simp [madeCells, vI, Nat.mod_one]

theorem end_scut2 (s : Bool) (x : Int) (h : 9223372036854775808 ≤ x) : scut s x = endZ s := by
  unfold scut endZ
  cases s
  · simp; rw [cut_hi (by omega)]
  · simp; rw [cut_lo (by omega)]
theorem down_scut2 (s t : Bool) (q : Int) (h0 : 0 ≤ q) (h1 : q ≤ 9223372036854775807) : scut s (q + (if s && t then 1 else 0)) = downZ s q t := by
  unfold scut downZ
  cases s <;> cases t <;> simp <;> rw [cut_in (by omega) (by omega)] <;> omega
theorem fin_meet (neg : Bool) (W F : List UInt8) (x y f : Int) (L : Bool) (hx : numL W = x) (x0 : 0 ≤ x) (hy : min x 1099511627776 = y) (hf : f = partL F) (hL : L = leftL F) (f0 : 0 ≤ f) (f1 : f < 4294967296) :
    scut neg (y * 4294967296 + f + (if neg && L then 1 else 0)) = readZ neg W F := by
  unfold readZ
  rw [hx, ← hf, ← hL]
  by_cases c : 2147483648 ≤ x
  · rw [if_pos c]
    exact end_scut2 neg _ (by split <;> omega)
  · rw [if_neg c, ← down_scut2 neg L _ (by omega) (by omega)]
    congr 3
    omega
theorem join_f (y f : Int) (y0 : 0 ≤ y) (y1 : y ≤ 1099511627776) (f0 : 0 ≤ f) (f1 : f < 4294967296) : bits .or .u64 (IntKind.u64.wrap (y * 4294967296)) f = y % 4294967296 * 4294967296 + f := by
  rw [show IntKind.u64.wrap (y * 4294967296) = y % 4294967296 * 4294967296 by rw [IntKind.wrap_u64]; omega]
  obtain ⟨a, ha⟩ : ∃ n : Nat, y % 4294967296 = n := ⟨(y % 4294967296).toNat, by omega⟩
  obtain ⟨b, rfl⟩ : ∃ n : Nat, f = n := ⟨f.toNat, by omega⟩
  rw [ha]
  have := bits_or_u64_nat (a * 4294967296) b (by omega) (by omega)
  rw [show (((a * 4294967296 : Nat)) : Int) = (a : Int) * 4294967296 by omega] at this
  rw [this]
  have e := Nat.two_pow_add_eq_or_of_lt (i := 32) (b := b) (by omega) a
  rw [show a * 4294967296 = 2 ^ 32 * a by omega, ← e]
  omega

theorem info3 : (Tryd.prog.info? 3).map (fun i => (i.zero, i.size, i.bytes)) = some (some (.int .i64 0), 1, 8) := by kernel_rfl

theorem more_out2 (h : Int) (w : World) (h0 : 0 ≤ h) (h1 : h < 18446744073709551615) :
    Calls Tryd.prog 27 #[.agg #[.int .u64 h, .int .u64 18446744073709551615]] w fun e w' => e = .returned (.agg #[.int .u64 (h + 1), .int .u64 0]) ∧ Stay w w' := by
  go_enter Tryd.func27, Tryd.ntmps27
  go_wp2
  have hw : IntKind.u64.wrap 18446744073709551616 = 0 := by rw [IntKind.wrap_u64]; decide
  exact bodyPost_ret (v := .agg #[.int .u64 (h + 1), .int .u64 0]) (by simp [results, Tryd.results27, go_sem, hw]) rfl ⟨rfl, ((Stay.refl _).alloc _).alloc _⟩
theorem more_any2 (h l x : Int) (w : World) (hx : x = h * 18446744073709551616 + l) (h0 : 0 ≤ h) (h1 : h < 18446744073709551615) (l0 : 0 ≤ l) (l1 : l ≤ 18446744073709551615) :
    Calls Tryd.prog 27 #[.agg #[.int .u64 h, .int .u64 l]] w fun e w' => e = .returned (.agg #[.int .u64 ((x + 1) / 18446744073709551616), .int .u64 ((x + 1) % 18446744073709551616)]) ∧ Stay w w' := by
  by_cases hl : l = 18446744073709551615
  · subst hl
    refine (more_out2 h w h0 h1).mono ?_
    rintro e w' ⟨rfl, hg⟩
    rw [show (x + 1) / 18446744073709551616 = h + 1 by omega, show (x + 1) % 18446744073709551616 = 0 by omega]
    exact ⟨rfl, hg⟩
  · refine (more_in h l w h0 (by omega) l0 (by omega)).mono ?_
    rintro e w' ⟨rfl, hg⟩
    rw [show (x + 1) / 18446744073709551616 = h by omega, show (x + 1) % 18446744073709551616 = l + 1 by omega]
    exact ⟨rfl, hg⟩
end Go.Proofs.YtcpgamhekelamaaDoor
