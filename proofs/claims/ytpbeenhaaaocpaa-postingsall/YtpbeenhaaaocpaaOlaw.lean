/-
  The law's own small functions; what came in.
-/
import Derived.Test.YtpbeenhaaaocpaaOrset
import Derived.Test.YtpbeenhaaaocpaaOread
import Derived.Deep.Slices
import Derived.OpenShut
import Derived.ChangeOld
namespace Go.Proofs.Ytpbeenhaaaocpaa.Po
open Go.RowKit Go.Proofs.Lys
set_option linter.unusedVariables false

theorem num_any (n : Int) (w : World) : Calls Try.prog 20 #[.int .i64 n] w fun e w' => e = .returned (.int .i64 n) ∧ w' = w := by
  go_enter Try.func20, Try.ntmps20
  go_wp2
  go_ret
  exact ⟨rfl, rfl⟩

theorem alive_pack : packR [3, 4, 9] = ([3, 3, 0, 4], 0) := by decide +kernel
theorem alive_and : setL 0 [1, 2, 3] [2, 3, 4] = [2, 3] := by decide +kernel
theorem lit_isrc (w : World) (l : List Int) (n : Nat) (hn : l.length = n) (hm : n ≤ 1000) : ISrc (w.alloc (.cells (l.map (Value.int .i64)).toArray 3)) (.slice (some ⟨w.heap.size, 0, none⟩) n n) l := by
  subst hn
  have h := World.ownsRow_lit (base := 0) (size := 1) (e := 3) w (l.map (Value.int .i64)).toArray l.length (Nat.zero_le _) (by unfold maxLen; omega) (by simp)
  exact own_isrc (by simpa using h)

set_option maxRecDepth 100000 in
set_option maxHeartbeats 1600000 in
theorem alive_any (w : World) : Calls Try.prog 8 #[] w fun e w' => e = .returned (.bool true) ∧ Kept w w' := by
  have hp := pack_any _ _ _ (lit_isrc w [3, 4, 9] 3 rfl (by decide)).1 (by decide)
  have HA := hid (fun W : World => lit_isrc W [1, 2, 3] 3 rfl (by decide))
  have HB := hid (fun W : World => lit_isrc W [2, 3, 4] 3 rfl (by decide))
  have HC := hid (fun W : World => lit_isrc W [2, 3] 2 rfl (by decide))
  unfold PackPost at hp
  rw [alive_pack] at hp
  go_enter Try.func8, Try.ntmps8
  go_wp2_with fail
  refine hp.mono ?_
  rintro e w1 ⟨u, rfl, ho, k1⟩
  have hc := hid (fun (W : World) (k : Kept w1 W) => bytes_str ((own_src ho).stay k))
  have HK := hid (show Kept w w1 from ((Only.refl _ w).alloc _).trans k1 (fun _ _ f => f))
  have ho' : w1.ownsRow _ 5 1 u 4 _ := ho
  obtain ⟨a, c, rfl⟩ := own_slice ho'
  clear ho ho' k1 hp
  go_wp2_with fail
  have hsz : (w1.alloc (.cells #[.int .i64 1, .int .i64 2, .int .i64 3] 3)).heap.size = w1.heap.size + 1 := by simp
  have s1 := (HA.out w1).stay ((Only.refl (fun _ => False) _).alloc (.cells #[.int .i64 2, .int .i64 3, .int .i64 4] 3))
  have s2 := HB.out (w1.alloc (.cells #[.int .i64 1, .int .i64 2, .int .i64 3] 3))
  rw [hsz] at s2
  refine (and_any _ _ _ _ _ s1 s2 (by decide) (by decide)).mono ?_
  rintro e w2 ⟨v2, rfl, ho2, k2⟩
  rw [alive_and] at ho2
  have HK2 := hid (show Kept w1 w2 from (((Only.refl _ w1).alloc _).alloc _).trans k2 (fun _ _ f => f))
  have HO2 := hid ho2
  clear k2 s1 s2 ho2 hsz
  go_wp2_with fail
  refine (same_any _ _ _ [2, 3] (own_src (own_only HO2.out ((Only.refl (fun _ => False) _).alloc _) (fun _ _ f => f))) (HC.out w2).1 (by decide)).mono ?_
  rintro e w3 ⟨rfl, k3⟩
  have HK3 := hid (show Kept w1 w3 from (HK2.out.alloc _).trans k3 (fun _ _ f => f))
  have hcv : (convert 31 9 (.slice a 4 c)).run Try.prog w3 = .ok (.string ⟨#[3, 3, 0, 4]⟩) w3 := hc.out w3 HK3.out
  clear k3
  go_wp2_with (go_at_call 20; refine (num_any _ _).mono ?_; rintro e w' ⟨rfl, hw⟩; replace hw := hw.symm; subst hw)
  go_ret
  exact ⟨rfl, HK.out.trans HK3.out (fun _ _ f => f)⟩

open Go.ChangeShapes in
theorem open_row {H : Type} {enc : TypeId × Value → H} {w : World} {spare : Nat → Bool} {held : Bool} {base : Nat} {a0 : Option Addr} {len0 cap0 : Nat} {x : DataW H × List MemPlace} {t e : TypeId} {k : IntKind} (ht : Try.prog.underlying t = some (.slice e)) (he : Try.prog.underlying e = some (.int k)) (hc : Try.prog.cellsOf e = 1)
    (h : ∃ m, DataW.trod enc Try.prog w base spare held m t (Value.slice a0 len0 cap0).cells.toList = some x) : ∃ zs : List Int, SrcOf w (.slice a0 len0 cap0) (zs.map (Value.int k)) ∧ zs.length = len0 ∧ len0 ≤ cap0 ∧ cap0 ≤ maxLen ∧ ∀ n ∈ zs, (Lit.int k n).wf = true := by
  obtain ⟨fuel, hf⟩ := h
  rcases open_ints ht he hc hf with ⟨hcs, _⟩ | ⟨a, l, c, zs, hcs, _, hl, hm, hz, _, hcell, hwz⟩
  · simp [Value.cells] at hcs
    obtain ⟨rfl, rfl, rfl⟩ := hcs
    exact ⟨[], .inl ⟨rfl, rfl⟩, rfl, Nat.le_refl _, Nat.zero_le _, by simp⟩
  · simp [Value.cells] at hcs
    obtain ⟨rfl, rfl, rfl⟩ := hcs
    have hzl : len0 ≤ zs.length := by rw [hz]; split <;> omega
    have hlen : (zs.take len0).length = len0 := by rw [List.length_take]; omega
    refine ⟨zs.take len0, .inr ⟨a, cap0, by rw [List.length_map, hlen], fun j u hu => ?_⟩, hlen, hl, hm, fun n hn => hwz n (List.mem_of_mem_take hn)⟩
    rw [List.getElem?_map, List.getElem?_take] at hu
    split at hu
    · rw [List.getElem?_eq_getElem (by omega)] at hu
      cases hu
      rw [hcell j (by omega), List.getD_eq_getElem?_getD, List.getElem?_eq_getElem (by omega)]
      rfl
    · cases hu
/-- Numbers, and bytes, that came in. -/
def IIn (w : World) (v : Value) (l : List Int) : Prop := ISrc w v l ∧ l.length ≤ 9223372036854775807
def BIn (w : World) (v : Value) (l : List UInt8) : Prop := BSrc w v l ∧ l.length ≤ 9223372036854775807
theorem open_isrc {H : Type} {enc : TypeId × Value → H} {w : World} {spare : Nat → Bool} {held : Bool} {base : Nat} {a0 : Option Addr} {len0 cap0 : Nat} {x : DataW H × List MemPlace}
    (h : ∃ m, DataW.trod enc Try.prog w base spare held m 22 (Value.slice a0 len0 cap0).cells.toList = some x) : ∃ l : List Int, IIn w (.slice a0 len0 cap0) l := by
  obtain ⟨zs, h1, h2, h3, h4, _⟩ := open_row Try.underlying22 Try.underlying3 (by kernel_rfl) h
  have hm : maxLen = 9223372036854775807 := by decide
  exact ⟨zs, ⟨h1, a0, cap0, by rw [h2], by omega⟩, by omega⟩
theorem open_bsrc {H : Type} {enc : TypeId × Value → H} {w : World} {spare : Nat → Bool} {held : Bool} {base : Nat} {a0 : Option Addr} {len0 cap0 : Nat} {x : DataW H × List MemPlace}
    (h : ∃ m, DataW.trod enc Try.prog w base spare held m 31 (Value.slice a0 len0 cap0).cells.toList = some x) : ∃ bs : List UInt8, BIn w (.slice a0 len0 cap0) bs := by
  obtain ⟨zs, h1, h2, h3, h4, h5⟩ := open_row Try.underlying31 Try.underlying5 (by kernel_rfl) h
  obtain ⟨bs, hl, hb⟩ := bytes_src h1 h5
  have hm : maxLen = 9223372036854775807 := by decide
  exact ⟨bs, ⟨hb, a0, cap0, by rw [hl, h2], by omega⟩, by omega⟩
end Go.Proofs.Ytpbeenhaaaocpaa.Po
