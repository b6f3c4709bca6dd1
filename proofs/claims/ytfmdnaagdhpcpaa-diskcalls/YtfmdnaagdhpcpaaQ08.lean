/-
  Dappcore.
-/
import Derived.Test.YtfmdnaagdhpcpaaQ07

/-
  append's body over plain values.
-/
namespace Go.Proofs.Ytfmdnaagdhpcpaa
open Go.RowKit Go.Proofs.Lys Go.Maps Go.Shelf
set_option linter.unusedVariables false

theorem leave_one {p k : Prop} (hp : p) (h : ¬ True → k) : p := hp

/-- The world in which append looks at lengths. -/
abbrev appW (w : World) (fb : Nat) (kv nv tv bv : Value) : World := (w.alloc (.cells #[kv, nv, tv, bv] 31)).alloc (.cells #[.pointer (some ⟨fb, 0, none⟩)] 82)

theorem appS (w : World) (fb : Nat) (kv nv tv bv : Value) : Stay w (appW w fb kv nv tv bv) := ((Only.refl _ w).alloc _).alloc _
theorem appO (w : World) (fb : Nat) (kv nv tv bv : Value) : Blk (appW w fb kv nv tv bv) w.heap.size [kv, nv, tv, bv] 31 := (Blk.new w [kv, nv, tv, bv] 31).alloc _
theorem appV (w : World) (fb : Nat) (kv nv tv bv : Value) : Blk (appW w fb kv nv tv bv) (w.heap.size + 1) [.pointer (some ⟨fb, 0, none⟩)] 82 := by
  have := Blk.new (w.alloc (.cells #[kv, nv, tv, bv] 31)) [.pointer (some ⟨fb, 0, none⟩)] 82
  simpa using this

section
variable (w : World) (d fb L1 L2 fc bc : Nat) (fa ba : Option Addr) (kv tv : Value) (s : ByteArray)

set_option maxHeartbeats 800000 in
theorem append_core_long
    (hfind : Hid (Calls Try.prog 54 #[.pointer (some ⟨d, 0, none⟩), .string s] (w.alloc (.cells #[kv, .string s, tv, .slice ba L2 bc] 31)) fun e w' => e = .returned (.pointer (some ⟨fb, 0, none⟩)) ∧ w' = w.alloc (.cells #[kv, .string s, tv, .slice ba L2 bc] 31)))
    (hlt : fb < w.heap.size) (f0 : w.cell? ⟨fb, 0, none⟩ = some (.slice fa L1 fc)) (hT : Hid (decide ((16777216 : Int) < IntKind.i64.wrap ((L1 : Int) + (L2 : Int))) = true)) :
    Calls Try.prog 29 #[.pointer (some ⟨d, 0, none⟩), .agg #[kv, .string s, tv, .slice ba L2 bc]] w fun e w' => e = gaveUp 2 ∧ Stay w w' := by
  have hst := Hid.mk (appS w fb kv (.string s) tv (.slice ba L2 bc))
  go_enter Try.func29, Try.ntmps29
  go_wp2_with fail
  refine hfind.out.mono ?_
  rintro e w1 ⟨rfl, rfl⟩
  clear hfind
  go_wp2_with fail
  go_region_with
    ((go_at_call 50
      rename_i K hK
      refine leave_one (k := K { tmps := #[], defers := [] } w) ?_ (fun hx => ?_)
      · (rw [hT.out]
         refine (refuse_yes _ _).mono ?_
         rintro e w1 ⟨rfl, rfl⟩
         exact ⟨rfl, rfl, hst.out.drew⟩)))
  all_goals exact absurd trivial hx

set_option maxHeartbeats 800000 in
theorem append_core_ok (R : Int)
    (hfind : Hid (Calls Try.prog 54 #[.pointer (some ⟨d, 0, none⟩), .string s] (w.alloc (.cells #[kv, .string s, tv, .slice ba L2 bc] 31)) fun e w' => e = .returned (.pointer (some ⟨fb, 0, none⟩)) ∧ w' = w.alloc (.cells #[kv, .string s, tv, .slice ba L2 bc] 31)))
    (hroom : Hid (∀ W, Stay w W → Calls Try.prog 25 #[.pointer (some ⟨d, 0, none⟩)] W fun e w' => e = .returned (.int .i64 R) ∧ Stay W w'))
    (hlt : fb < w.heap.size) (f0 : w.cell? ⟨fb, 0, none⟩ = some (.slice fa L1 fc)) (hT : Hid (decide ((16777216 : Int) < IntKind.i64.wrap ((L1 : Int) + (L2 : Int))) = false)) (hR : Hid (decide (R < (L2 : Int)) = false)) :
    Calls Try.prog 29 #[.pointer (some ⟨d, 0, none⟩), .agg #[kv, .string s, tv, .slice ba L2 bc]] w fun e w' =>
      e = .returned (.func (.func 55) #[] #[.pointer (some ⟨w.heap.size + 1, 0, none⟩), .pointer (some ⟨w.heap.size, 0, none⟩)]) ∧ Stay (appW w fb kv (.string s) tv (.slice ba L2 bc)) w' := by
  have hmf : ∀ (fn : Fn) (first cap : Array Value) (w : World), (Instr.makeFunc fn first cap).run Try.prog w = .ok (.func fn first cap) w := fun _ _ _ _ => rfl
  have hst := Hid.mk (appS w fb kv (.string s) tv (.slice ba L2 bc))
  have hoB := Hid.mk (appO w fb kv (.string s) tv (.slice ba L2 bc))
  have v0 := (appV w fb kv (.string s) tv (.slice ba L2 bc)).cell 0 rfl
  have o3 := (appO w fb kv (.string s) tv (.slice ba L2 bc)).cell 3 rfl
  have g0 : (appW w fb kv (.string s) tv (.slice ba L2 bc)).cell? ⟨fb, 0, none⟩ = some (.slice fa L1 fc) := by
    rw [World.cell?_of_block (w := w) (a := ⟨fb, 0, none⟩) (hst.out.block fb hlt (fun f => f))]
    exact f0
  go_enter Try.func29, Try.ntmps29
  go_wp2_with fail
  refine hfind.out.mono ?_
  rintro e w1 ⟨rfl, rfl⟩
  clear hfind
  go_wp2_with fail
  go_region_held3 (fun w' => w'.cell? ⟨w.heap.size + 1, 0, none⟩ = some (.pointer (some ⟨fb, 0, none⟩)) ∧ w'.cell? ⟨fb, 0, none⟩ = some (.slice fa L1 fc) ∧ w'.cell? ⟨w.heap.size, 3, none⟩ = some (.slice ba L2 bc))
    (exact ⟨v0, g0, o3⟩)
    ((go_at_call 50; rw [hT.out]; refine (refuse_no _ _).mono ?_; rintro e w1 ⟨rfl, rfl⟩))
  go_wp2_with fail
  go_region_held3 (fun w' => w'.cell? ⟨w.heap.size, 3, none⟩ = some (.slice ba L2 bc))
    (first
      | exact o3
      | exact (hs2.blk hoB.out.drew (fun f => f)).cell 3 rfl)
    ((first
      | (go_at_call 25; refine (hroom.out _ (hst.out.drew.drew)).mono ?_; rintro e w2 ⟨rfl, hs2⟩)
      | (go_at_call 50; rw [hR.out]; refine (refuse_no _ _).mono ?_; rintro e w3 ⟨rfl, rfl⟩)))
  go_wp2_with fail
  go_ret
  exact ⟨rfl, (Only.refl _ _).drew.drew.trans hs2 (fun _ _ f => f)⟩

set_option maxHeartbeats 800000 in
theorem append_core_full (R : Int)
    (hfind : Hid (Calls Try.prog 54 #[.pointer (some ⟨d, 0, none⟩), .string s] (w.alloc (.cells #[kv, .string s, tv, .slice ba L2 bc] 31)) fun e w' => e = .returned (.pointer (some ⟨fb, 0, none⟩)) ∧ w' = w.alloc (.cells #[kv, .string s, tv, .slice ba L2 bc] 31)))
    (hroom : Hid (∀ W, Stay w W → Calls Try.prog 25 #[.pointer (some ⟨d, 0, none⟩)] W fun e w' => e = .returned (.int .i64 R) ∧ Stay W w'))
    (hlt : fb < w.heap.size) (f0 : w.cell? ⟨fb, 0, none⟩ = some (.slice fa L1 fc)) (hT : Hid (decide ((16777216 : Int) < IntKind.i64.wrap ((L1 : Int) + (L2 : Int))) = false)) (hR : Hid (decide (R < (L2 : Int)) = true)) :
    Calls Try.prog 29 #[.pointer (some ⟨d, 0, none⟩), .agg #[kv, .string s, tv, .slice ba L2 bc]] w fun e w' => e = gaveUp 11 ∧ Stay w w' := by
  have hst := Hid.mk (appS w fb kv (.string s) tv (.slice ba L2 bc))
  have hoB := Hid.mk (appO w fb kv (.string s) tv (.slice ba L2 bc))
  have v0 := (appV w fb kv (.string s) tv (.slice ba L2 bc)).cell 0 rfl
  have o3 := (appO w fb kv (.string s) tv (.slice ba L2 bc)).cell 3 rfl
  have g0 : (appW w fb kv (.string s) tv (.slice ba L2 bc)).cell? ⟨fb, 0, none⟩ = some (.slice fa L1 fc) := by
    rw [World.cell?_of_block (w := w) (a := ⟨fb, 0, none⟩) (hst.out.block fb hlt (fun f => f))]
    exact f0
  go_enter Try.func29, Try.ntmps29
  go_wp2_with fail
  refine hfind.out.mono ?_
  rintro e w1 ⟨rfl, rfl⟩
  clear hfind
  go_wp2_with fail
  go_region_held3 (fun w' => w'.cell? ⟨w.heap.size + 1, 0, none⟩ = some (.pointer (some ⟨fb, 0, none⟩)) ∧ w'.cell? ⟨fb, 0, none⟩ = some (.slice fa L1 fc) ∧ w'.cell? ⟨w.heap.size, 3, none⟩ = some (.slice ba L2 bc))
    (exact ⟨v0, g0, o3⟩)
    ((go_at_call 50; rw [hT.out]; refine (refuse_no _ _).mono ?_; rintro e w1 ⟨rfl, rfl⟩))
  go_wp2_with fail
  go_region_with
    ((first
      | (go_at_call 25; refine (hroom.out _ (hst.out.drew.drew)).mono ?_; rintro e w2 ⟨rfl, hs2⟩; have o3' := (hs2.blk hoB.out.drew.drew (fun f => f)).cell 3 rfl)
      | (go_at_call 50
         rename_i K hK
         refine leave_one (k := K { tmps := #[], defers := [] } w) ?_ (fun hx => ?_)
         · (rw [hR.out]
            refine (refuse_yes _ _).mono ?_
            rintro e w3 ⟨rfl, rfl⟩
            exact ⟨rfl, rfl, (hst.out.drew.drew).trans hs2 (fun _ _ f => f)⟩))))
  all_goals exact absurd trivial hx
end
end Go.Proofs.Ytfmdnaagdhpcpaa
