/-
  Package rollup: gathered, Buckets, Wider.
-/
import Derived.Test.YtjjmidooikgaaaaYhand
namespace Go.Proofs.Ytjjmidooikgaaaa.Ru
open Go Go.RowKit Go.Proofs.Lys Go.Shelf
set_option linter.unusedVariables false
set_option linter.unusedSimpArgs false

/-- What buckets are told to make. -/
def GatP (w : World) (x : Int) (bl : Bks) (e : Ending) (w' : World) : Prop :=
  Kept w w' ∧ (((x < 1 ∨ 9007199254740992 < x) ∧ e = .returned (.tuple #[.slice none 0 0, .int .i64 1])) ∨
    (1 ≤ x ∧ x ≤ 9007199254740992 ∧ ¬ okT T0 bl ∧ e = .returned (.tuple #[.slice none 0 0, .int .i64 21])) ∨
    (1 ≤ x ∧ x ≤ 9007199254740992 ∧ okT T0 bl ∧ ∃ v, e = .returned (.tuple #[v, .int .i64 0]) ∧ BkAt w' w.heap.size v (gat x bl)))

set_option maxRecDepth 100000 in
set_option maxHeartbeats 1600000 in
theorem gathered_any (M : Nat) (w : World) (gf : Nat) (lb : Array Value) (bl : Bks) (x : Int) (hG : Gives M gf lb bl w) (hent : ∀ args w, (callFunc gf args).run Try.prog w = .ok (.enter gf args) w)
    (hx : In64 x) (hl : bl.length ≤ 90000) (hM : M * (bl.length + 2) ≤ 1000000000) :
    Calls Try.prog 19 #[.func (.func gf) #[] lb, .int .i64 x] w (GatP w x bl) := by
  obtain ⟨PQ, hPQ⟩ : ∃ PQ, GatP w x bl = PQ := ⟨_, rfl⟩
  rw [hPQ]
  have HPQ := hid hPQ
  have hmf : ∀ (fn : Fn) (first cap : Array Value) (w : World), (Instr.makeFunc fn first cap).run Try.prog w = .ok (.func fn first cap) w := fun _ _ _ _ => rfl
  have k1 : Kept w (w.alloc (.cells #[.slice none 0 0] 57)) := (Only.refl _ w).alloc _
  have HH := hid (hand_any M w (w.alloc (.cells #[.slice none 0 0] 57)) gf lb bl x w.heap.size (.slice none 0 0) hG hent (k1.toBelow (fun _ f => f.elim) (Nat.le_refl _)) (Nat.le_refl _) (Blk.new w _ _) (bk_nil _ _) hx hl hM)
  have HK := hid k1
  clear k1 hPQ hG
  go_enter Try.func19, Try.ntmps19
  go_wp2_with fail
  refine HH.out.mono ?_
  rintro e w3 ⟨hO, ⟨hbad, rfl⟩ | ⟨h1, h2, hno, rfl⟩ | ⟨h1, h2, hok, rfl, v, hP, hR⟩⟩
  · have HF : Hid (PQ (.returned (.tuple #[.slice none 0 0, .int .i64 1])) w3) := by
      rw [← HPQ.out]
      exact hid ⟨HK.out.trans (hO.mono (O' := fun j => j = w.heap.size) (fun _ _ h => h)) (fun j hj h => by omega), .inl ⟨hbad, rfl⟩⟩
    clear hO hbad HH
    go_wp2
    exact HF.out
  · have HF : Hid (PQ (.returned (.tuple #[.slice none 0 0, .int .i64 21])) w3) := by
      rw [← HPQ.out]
      exact hid ⟨HK.out.trans hO (fun j hj h => by omega), .inr (.inl ⟨h1, h2, hno, rfl⟩)⟩
    clear hO hno HH
    go_wp2
    exact HF.out
  · have HF : Hid (PQ (.returned (.tuple #[v, .int .i64 0])) w3) := by
      rw [← HPQ.out]
      exact hid ⟨HK.out.trans hO (fun j hj h => by omega), .inr (.inr ⟨h1, h2, hok, v, rfl, ownN_base hR (by simp)⟩)⟩
    have hc := hP.cell 0 rfl
    clear hO hok HH hR hP
    go_wp2
    exact HF.out

set_option maxRecDepth 100000 in
set_option maxHeartbeats 1600000 in
theorem buckets_any (w : World) (a : Option Addr) (c : Nat) (xs : Smps) (x : Int) (hs : SmpSrc w (.slice a xs.length c) xs) (hin : ∀ p ∈ xs, In64 p.1 ∧ In64 p.2) (hx : In64 x) (hl : xs.length ≤ 90000) :
    Calls Try.prog 16 #[.slice a xs.length c, .int .i64 x] w (GatP w x (xs.map one)) := by
  have k1 : Kept w (w.alloc (.cells #[.slice a xs.length c] 22)) := (Only.refl _ w).alloc _
  have hlm : (xs.map one).length = xs.length := List.length_map _
  have HG := hid (gathered_any 1 _ 26 #[.pointer (some ⟨w.heap.size, 0, none⟩)] (xs.map one) x (singles_give w a c xs hs hin (by omega)) (enters_of Try.func26 (by kernel_rfl) rfl) hx (by rw [hlm]; exact hl) (by rw [hlm]; omega))
  have HS := hid (singles_any a xs.length c w)
  have HK := hid k1
  obtain ⟨PQ, hPQ⟩ : ∃ PQ, GatP w x (xs.map one) = PQ := ⟨_, rfl⟩
  rw [hPQ]
  have HPQ : Hid (∀ e w', GatP (w.alloc (.cells #[.slice a xs.length c] 22)) x (xs.map one) e w' → PQ e w' ∧ ∃ v n, e = .returned (.tuple #[v, .int .i64 n])) := by
    rw [← hPQ]
    refine hid (fun e w' h => ⟨⟨HK.out.trans h.1 (fun _ _ f => f), ?_⟩, ?_⟩)
    · rcases h.2 with h | h | ⟨h1, h2, h3, v, h4, h5⟩
      · exact .inl h
      · exact .inr (.inl h)
      · exact .inr (.inr ⟨h1, h2, h3, v, h4, ownN_base h5 (by simp)⟩)
    · rcases h.2 with ⟨_, h⟩ | ⟨_, _, _, h⟩ | ⟨_, _, _, v, h, _⟩
      · exact ⟨_, _, h⟩
      · exact ⟨_, _, h⟩
      · exact ⟨_, _, h⟩
  obtain ⟨L, hL⟩ : ∃ L, xs.length = L := ⟨_, rfl⟩
  rw [hL] at HG HS HPQ ⊢
  clear k1 hPQ hs hin hlm hL
  go_enter Try.func16, Try.ntmps16
  go_wp2_with fail
  refine HS.out.mono ?_
  rintro e w' ⟨rfl, hw⟩
  subst hw
  go_wp2_with fail
  refine HG.out.mono ?_
  intro e w3 h
  obtain ⟨hP, v, n, rfl⟩ := HPQ.out e w3 h
  have HF := hid hP
  clear hP h HPQ HG HS
  go_wp2
  exact HF.out

end Go.Proofs.Ytjjmidooikgaaaa.Ru
