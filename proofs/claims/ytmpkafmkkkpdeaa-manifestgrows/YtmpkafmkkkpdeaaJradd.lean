/-
  The document's own Add.
-/
import Derived.Test.YtmpkafmkkkpdeaaJswap
import Derived.Test.YtmpkafmkkkpdeaaWlast
import Derived.Test.YtmpkafmkkkpdeaaJpp
import Derived.BigRegion
namespace Go.Proofs.Lys
open Go Go.RowKit
section
variable {P : Program} {ops : Array Oper} {Q : Exit → Act → World → Prop} {md : Region.Mode} {S : World → Prop} {L : Nat}
/-- Two may come up. -/
theorem wpAnyL_two {i j : Nat} {oi oj : Oper} {fuel : Nat} {listed : Array Bool} {a : Act} {w : World} (hr : Region.ready md ops listed = [i, j]) (hoi : ops[i]? = some oi) (hoj : ops[j]? = some oj) (hwi : Region.wanted oi (yielded ops a.tmps) = true) (hwj : Region.wanted oj (yielded ops a.tmps) = true)
    (h1 : Oper.wp P oi a w (fun a' w' => S w' ∧ wpAnyL P md ops Q S L fuel (listed.setIfInBounds i true) a' w') Q)
    (h2 : Oper.wp P oj a w (fun a' w' => S w' ∧ wpAnyL P md ops Q S L fuel (listed.setIfInBounds j true) a' w') Q) : wpAnyL P md ops Q S L (fuel + 1) listed a w := by
  refine ⟨fun h0 => (by rw [hr] at h0; cases h0), fun q hq => ?_⟩
  rw [hr] at hq
  have e : q = i ∨ q = j := by simpa using hq
  rcases e with rfl | rfl
  · refine wpOp_step hoi (fun K hK => ?_)
    rw [if_pos hwi]
    exact Oper.wp_mono (fun a' w' h' => hK a' w' ⟨fun _ => h'.1, h'.2⟩) h1
  · refine wpOp_step hoj (fun K hK => ?_)
    rw [if_pos hwj]
    exact Oper.wp_mono (fun a' w' h' => hK a' w' ⟨fun _ => h'.1, h'.2⟩) h2
end
/-- A region whose ways meet again: what it leaves is told once. -/
theorem wp_region_meet {P : Program} {id : Nat} {ops : Array Oper} {b : Bool} {Q : Exit → Act → World → Prop} {a : Act} {w : World} {A : Nat → Option Addr → Nat → Act} (D : Nat → Option Addr → Nat → World → Prop)
    (h1 : (Code.region id ops b).wp P (fun e a' w' => e = .normal ∧ ∃ n x c, a' = A n x c ∧ D n x c w') a w) (h2 : ∀ n x c w', D n x c w' → Q .normal (A n x c) w') : (Code.region id ops b).wp P Q a w :=
  Code.wp_mono (fun e a' w' h => by obtain ⟨rfl, n, x, c, rfl, hD⟩ := h; exact h2 n x c w' hD) h1
end Go.Proofs.Lys
namespace Go.Proofs.Ytmpkafmkkkpdeaa.J
open Go.RowKit Go.Proofs.Lys
set_option linter.unusedVariables false
set_option linter.unusedSimpArgs false

theorem blk_all {w w' : World} {b T : Nat} {c0 c1 c2 c3 : Value} (h : Blk w b [c0, c1, c2, c3] T) (k : Kept w w') : w'.cell? ⟨b, 0, none⟩ = some c0 ∧ w'.cell? ⟨b, 1, none⟩ = some c1 ∧ w'.cell? ⟨b, 2, none⟩ = some c2 ∧ w'.cell? ⟨b, 3, none⟩ = some c3 :=
  have h' := Only.blk k h (fun f => f)
  ⟨h'.cell 0 rfl, h'.cell 1 rfl, h'.cell 2 rfl, h'.cell 3 rfl⟩
/-- A manifest laid anew, with a copy of blocks. -/
def NewD (w : World) (l : List Rf) (L : Nat) (N G Lo : Int) (n : Nat) (x : Option Addr) (c : Nat) (w' : World) : Prop :=
  RfAt w' w.heap.size (.slice x L c) l ∧ Blk w' n [.slice x L c, .int .i64 (N + 1), .int .i64 G, .int .i64 Lo] 24 ∧ Kept w w' ∧ w.heap.size ≤ n

set_option maxRecDepth 100000 in
set_option maxHeartbeats 3200000 in
theorem radd_any (w : World) (a : Option Addr) (c : Nat) (m : Man) (lv f t : Int) (hs : RfSrc w (.slice a m.bl.length c) m.bl) :
    Calls Try.prog 8 #[manV (.slice a m.bl.length c) m, .int .i64 lv, .int .i64 f, .int .i64 t] w (TurnP w (addQ m lv f t)) := by
  have HLE : Hid (chkO m = 0 → m.bl.length ≤ 200 ∧ 1 ≤ m.next ∧ m.next ≤ 1099511627776) := hid (fun h => ⟨chk_len h, chk_next h⟩)
  have HQN : Hid (∀ q, chkO m = q → q ≠ 0 → addQ m lv f t = (manZ, 0, q)) := hid (fun q h hq => by unfold addQ; rw [h, if_neg hq])
  have HQY : Hid (chkO m = 0 → addQ m lv f t = newQ m lv f t) := hid (fun h => by unfold addQ; rw [if_pos h])
  generalize addQ m lv f t = QQ at HQN HQY ⊢
  obtain ⟨R, hR⟩ : ∃ R, TurnP w QQ = R := ⟨_, rfl⟩
  rw [hR]
  have HRR := hid hR
  have HS := hid hs
  have HC : Hid (∀ W, Kept w W → Calls Try.prog 19 #[manV (.slice a m.bl.length c) m] W fun e w' => e = .returned (.int .i64 (chkO m)) ∧ Kept W w') := hid (fun W k => rcheck_any W a c m (HS.out.stay k))
  obtain ⟨q, hq⟩ : ∃ q, chkO m = q := ⟨_, rfl⟩
  rw [hq] at HLE HQN HQY HC
  obtain ⟨l, N, G, Lo⟩ := m
  unfold manV at HC ⊢
  simp only at HC HS HLE ⊢
  obtain ⟨L, hLe⟩ : ∃ L, l.length = L := ⟨_, rfl⟩
  have HL := hid hLe
  rw [hLe] at HC HS HLE ⊢
  clear hs hR hLe hq
  obtain ⟨w2, hw2⟩ : ∃ W, (w.alloc (manO a L c N G Lo)).alloc (manO none 0 0 0 0 0) = W := ⟨_, rfl⟩
  have HK2 : Hid (Kept w w2) := by rw [← hw2]; exact hid (((Only.refl _ w).alloc _).alloc _)
  have HB2 : Hid (Blk w2 w.heap.size [.slice a L c, .int .i64 N, .int .i64 G, .int .i64 Lo] 24) := by
    rw [← hw2]
    exact (Blk.new w [.slice a L c, .int .i64 N, .int .i64 G, .int .i64 Lo] 24).alloc _
  have HZ2 : Hid (Blk w2 (w.heap.size + 1) [.slice none 0 0, .int .i64 0, .int .i64 0, .int .i64 0] 24) := by
    rw [← hw2]
    have := Blk.new (w.alloc (manO a L c N G Lo)) [.slice none 0 0, .int .i64 0, .int .i64 0, .int .i64 0] 24
    rw [World.size_alloc] at this
    exact hid this
  have HW2 := hid hw2
  clear hw2
  go_enter Try.func8, Try.ntmps8
  go_wp2_with fail
  rw [HW2.out]
  refine (HC.out w2 HK2.out).mono ?_
  rintro e w3 ⟨rfl, k3⟩
  have K3 := hid (HK2.out.trans k3 (fun _ _ f => f))
  have hB3 := Only.blk k3 HB2.out (fun f => f)
  have hZ3 := Only.blk k3 HZ2.out (fun f => f)
  have HB3 := hid hB3
  have HZ3 := hid hZ3
  have b0 := hB3.cell 0 rfl
  have b1 := hB3.cell 1 rfl
  have b2 := hB3.cell 2 rfl
  have b3 := hB3.cell 3 rfl
  have hlt7 := hB3.lt
  have hlt8 := hZ3.lt
  clear k3 HC HW2 HK2 HB2 HZ2 hB3
  by_cases hz : q = 0
  · subst hz
    have HQ1 : Hid (QQ = newQ ⟨l, N, G, Lo⟩ lv f t) := hid (HQY.out rfl)
    have HLE0 := hid (HLE.out rfl)
    have hN1 := HLE0.out.2.1
    have hN2 := HLE0.out.2.2
    have hL2 := HLE0.out.1
    have hw1 : IntKind.i64.wrap (N + 1) = N + 1 := by rw [IntKind.wrap_i64]; omega
    clear HQN HQY HLE hZ3
    go_wp2_with fail
    apply wp_region_meet (D := NewD w3 l L N G Lo)
    case h1 =>
      have KA := hid (show Kept w3 w3.drew from (Only.refl _ _).drew)
      refine wp_region_noPanic ?_
      refine wp_region_last (L := 12) (S := fun w' => Kept w3 w') (by kernel_rfl) ?_
      refine wpAnyL_take (i := 0) (v := .pointer (some ⟨w.heap.size, 1, none⟩)) rfl (by kernel_rfl) (by kernel_rfl) (by kernel_rfl) (by kernel_rfl) (by kernel_rfl) (fun _ _ _ h => h) (Or.inl ⟨by kernel_rfl, ?_⟩) KA.out ?_
      · (intro w' hSw; obtain ⟨s0, s1, s2, s3⟩ := blk_all HB3.out hSw; have hz4 := Nat.lt_of_lt_of_le HB3.out.lt hSw.size; clear hSw; go_simp)
      (try simp only [List.getElem_toArray, List.getElem_cons_succ, List.getElem_cons_zero])
      go_frame
      refine wpAnyL_take (i := 1) (v := .int .i64 N) rfl (by kernel_rfl) (by kernel_rfl) (by kernel_rfl) (by kernel_rfl) (by kernel_rfl) (fun _ _ _ h => h) (Or.inl ⟨by kernel_rfl, ?_⟩) KA.out ?_
      · (intro w' hSw; obtain ⟨s0, s1, s2, s3⟩ := blk_all HB3.out hSw; have hz4 := Nat.lt_of_lt_of_le HB3.out.lt hSw.size; clear hSw; go_simp)
      (try simp only [List.getElem_toArray, List.getElem_cons_succ, List.getElem_cons_zero])
      go_frame
      refine wpAnyL_take (i := 2) (v := .int .i64 (N + 1)) rfl (by kernel_rfl) (by kernel_rfl) (by kernel_rfl) (by kernel_rfl) (by kernel_rfl) (fun _ _ _ h => h) (Or.inl ⟨by kernel_rfl, ?_⟩) KA.out ?_
      · (intro w' hSw; obtain ⟨s0, s1, s2, s3⟩ := blk_all HB3.out hSw; have hz4 := Nat.lt_of_lt_of_le HB3.out.lt hSw.size; clear hSw; go_simp)
      (try simp only [List.getElem_toArray, List.getElem_cons_succ, List.getElem_cons_zero])
      go_frame
      refine wpAnyL_take (i := 3) (v := .pointer (some ⟨w.heap.size, 2, none⟩)) rfl (by kernel_rfl) (by kernel_rfl) (by kernel_rfl) (by kernel_rfl) (by kernel_rfl) (fun _ _ _ h => h) (Or.inl ⟨by kernel_rfl, ?_⟩) KA.out ?_
      · (intro w' hSw; obtain ⟨s0, s1, s2, s3⟩ := blk_all HB3.out hSw; have hz4 := Nat.lt_of_lt_of_le HB3.out.lt hSw.size; clear hSw; go_simp)
      (try simp only [List.getElem_toArray, List.getElem_cons_succ, List.getElem_cons_zero])
      go_frame
      refine wpAnyL_take (i := 4) (v := .int .i64 G) rfl (by kernel_rfl) (by kernel_rfl) (by kernel_rfl) (by kernel_rfl) (by kernel_rfl) (fun _ _ _ h => h) (Or.inl ⟨by kernel_rfl, ?_⟩) KA.out ?_
      · (intro w' hSw; obtain ⟨s0, s1, s2, s3⟩ := blk_all HB3.out hSw; have hz4 := Nat.lt_of_lt_of_le HB3.out.lt hSw.size; clear hSw; go_simp)
      (try simp only [List.getElem_toArray, List.getElem_cons_succ, List.getElem_cons_zero])
      go_frame
      refine wpAnyL_take (i := 5) (v := .pointer (some ⟨w.heap.size, 3, none⟩)) rfl (by kernel_rfl) (by kernel_rfl) (by kernel_rfl) (by kernel_rfl) (by kernel_rfl) (fun _ _ _ h => h) (Or.inl ⟨by kernel_rfl, ?_⟩) KA.out ?_
      · (intro w' hSw; obtain ⟨s0, s1, s2, s3⟩ := blk_all HB3.out hSw; have hz4 := Nat.lt_of_lt_of_le HB3.out.lt hSw.size; clear hSw; go_simp)
      (try simp only [List.getElem_toArray, List.getElem_cons_succ, List.getElem_cons_zero])
      go_frame
      refine wpAnyL_take (i := 6) (v := .int .i64 Lo) rfl (by kernel_rfl) (by kernel_rfl) (by kernel_rfl) (by kernel_rfl) (by kernel_rfl) (fun _ _ _ h => h) (Or.inl ⟨by kernel_rfl, ?_⟩) KA.out ?_
      · (intro w' hSw; obtain ⟨s0, s1, s2, s3⟩ := blk_all HB3.out hSw; have hz4 := Nat.lt_of_lt_of_le HB3.out.lt hSw.size; clear hSw; go_simp)
      (try simp only [List.getElem_toArray, List.getElem_cons_succ, List.getElem_cons_zero])
      go_frame
      refine wpAnyL_take (i := 7) (v := .pointer (some ⟨w.heap.size, 0, none⟩)) rfl (by kernel_rfl) (by kernel_rfl) (by kernel_rfl) (by kernel_rfl) (by kernel_rfl) (fun _ _ _ h => h) (Or.inl ⟨by kernel_rfl, ?_⟩) KA.out ?_
      · (intro w' hSw; obtain ⟨s0, s1, s2, s3⟩ := blk_all HB3.out hSw; have hz4 := Nat.lt_of_lt_of_le HB3.out.lt hSw.size; clear hSw; go_simp)
      (try simp only [List.getElem_toArray, List.getElem_cons_succ, List.getElem_cons_zero])
      go_frame
      refine wpAnyL_take (i := 8) (v := .slice a L c) rfl (by kernel_rfl) (by kernel_rfl) (by kernel_rfl) (by kernel_rfl) (by kernel_rfl) (fun _ _ _ h => h) (Or.inl ⟨by kernel_rfl, ?_⟩) KA.out ?_
      · (intro w' hSw; obtain ⟨s0, s1, s2, s3⟩ := blk_all HB3.out hSw; have hz4 := Nat.lt_of_lt_of_le HB3.out.lt hSw.size; clear hSw; go_simp)
      (try simp only [List.getElem_toArray, List.getElem_cons_succ, List.getElem_cons_zero])
      go_frame
      refine wpAnyL_two (i := 9) (j := 11) (by kernel_rfl) rfl rfl (by kernel_rfl) (by kernel_rfl) ?_ ?_
      · obtain ⟨x, cc, W6, R6, h6, k6⟩ := rf_copy (HS.out.stay (K3.out.trans KA.out (fun _ _ f => f))) (by have := HL.out; omega)
        rw [HL.out] at R6 h6
        have KB := hid (show Kept w3 W6 from KA.out.trans k6 (fun _ _ f => f))
        refine oper_appendH _ _ _ rfl rfl rfl R6 ?_
        refine ⟨KB.out, ?_⟩
        go_frame
        refine wpAnyL_take (i := 10) (v := .agg #[.slice x L cc, .int .i64 (N + 1), .int .i64 G, .int .i64 Lo]) rfl (by kernel_rfl) (by kernel_rfl) (by kernel_rfl) (by kernel_rfl) (by kernel_rfl) (fun _ _ _ h => h) (Or.inl ⟨by kernel_rfl, ?_⟩) KB.out ?_
        · (intro w' hSw; go_simp)
        (try simp only [List.getElem_toArray, List.getElem_cons_succ, List.getElem_cons_zero])
        go_frame
        refine wpAnyL_one (i := 11) (by kernel_rfl) rfl rfl ?_
        go_simp
        refine ⟨KB.out.alloc _, ?_⟩
        (try go_frame)
        refine wpAnyL_last (by kernel_rfl) (by kernel_rfl) rfl rfl ?_
        go_simp
        refine NoPanic.normal ?_
        have hD : NewD w3 l L N G Lo W6.heap.size x cc (W6.alloc (manO x L cc (N + 1) G Lo)) := ⟨ownN_stay (ownN_base h6 (Nat.le_refl _)) ((Only.refl _ _).alloc _), Blk.new W6 [.slice x L cc, .int .i64 (N + 1), .int .i64 G, .int .i64 Lo] 24, KB.out.alloc _, KB.out.size⟩
        clear R6 h6 k6 KB
        generalize W6.heap.size = nb at hD ⊢
        exact ⟨rfl, nb, x, cc, rfl, hD⟩
      · go_simp
        have KY := hid (show Kept w3 (w3.drew.alloc (manO none 0 0 0 0 0)) from KA.out.alloc _)
        refine ⟨KY.out, ?_⟩
        (try go_frame)
        have hY := Blk.new w3.drew [.slice none 0 0, .int .i64 0, .int .i64 0, .int .i64 0] 24
        obtain ⟨x, cc, W6, R6, h6, k6⟩ := rf_copy (HS.out.stay (K3.out.trans KY.out (fun _ _ f => f))) (by have := HL.out; omega)
        rw [HL.out] at R6 h6
        have KB := hid (show Kept w3 W6 from KY.out.trans k6 (fun _ _ f => f))
        have hY6 : Blk W6 w3.heap.size [.slice none 0 0, .int .i64 0, .int .i64 0, .int .i64 0] 24 := Only.blk k6 hY (fun f => f)
        refine wpAnyL_one (i := 9) (by kernel_rfl) rfl rfl (oper_appendH _ _ _ rfl rfl rfl R6 ?_)
        refine ⟨KB.out, ?_⟩
        go_frame
        refine wpAnyL_take (i := 10) (v := .agg #[.slice x L cc, .int .i64 (N + 1), .int .i64 G, .int .i64 Lo]) rfl (by kernel_rfl) (by kernel_rfl) (by kernel_rfl) (by kernel_rfl) (by kernel_rfl) (fun _ _ _ h => h) (Or.inl ⟨by kernel_rfl, ?_⟩) KB.out ?_
        · (intro w' hSw; go_simp)
        (try simp only [List.getElem_toArray, List.getElem_cons_succ, List.getElem_cons_zero])
        go_frame
        have hltY := hY6.lt
        have y0 := hY6.cell 0 rfl
        have y1 := hY6.cell 1 rfl
        have y2 := hY6.cell 2 rfl
        have y3 := hY6.cell 3 rfl
        have f0 := hY6.frozen 0
        have f1 := hY6.frozen 1
        have f2 := hY6.frozen 2
        have f3 := hY6.frozen 3
        have hD : NewD w3 l L N G Lo w3.heap.size x cc ((((W6.setCell ⟨w3.heap.size, 0, none⟩ (.slice x L cc)).setCell ⟨w3.heap.size, 1, none⟩ (.int .i64 (N + 1))).setCell ⟨w3.heap.size, 2, none⟩ (.int .i64 G)).setCell ⟨w3.heap.size, 3, none⟩ (.int .i64 Lo)) := by
          refine ⟨?_, (((hY6.set 0 (.slice x L cc)).set 1 (.int .i64 (N + 1))).set 2 (.int .i64 G)).set 3 (.int .i64 Lo), set4 _ _ _ _ _ _ KB.out (Nat.le_refl _), Nat.le_refl _⟩
          refine ownN_base (set4_row h6 _ _ _ _ ?_) (KY.out.size)
          show w3.heap.size < (w3.drew.alloc (manO none 0 0 0 0 0)).heap.size
          rw [World.size_alloc]
          exact Nat.lt_succ_self _
        have HD := hid hD
        clear hD R6 h6 k6 KB KY hY hY6
        refine wpAnyL_last (by kernel_rfl) (by kernel_rfl) rfl rfl ?_
        go_simp
        refine NoPanic.normal ?_
        exact ⟨rfl, w3.heap.size, x, cc, rfl, HD.out⟩
    case h2 =>
      intro nb x5 c5 w5 hD
      obtain ⟨h5, hN5, k5, hnb⟩ := hD
      have hB5 := Only.blk k5 HB3.out (fun f => f)
      have hZ5 := Only.blk k5 HZ3.out (fun f => f)
      have K5 := hid (K3.out.trans k5 (fun _ _ f => f))
      have hS5 := k5.size
      obtain ⟨g, cap, w6, Hr, h6, ho6⟩ := rf_one h5 hS5 (N, lv, f, t) (by have := HL.out; omega)
      rw [HL.out] at Hr h6
      have hnO : ∀ j T vs, Blk w5 j vs T → T ≠ 28 → ¬ (Value.slice x5 L c5).ownBlock = some j := fun j T vs hb hT e => (Typed.ne (ownN_typed h5 e) hb.typed (fun h => hT h.symm)) rfl
      have hB6 := Only.blk ho6 hB5 (hnO _ _ _ hB5 (by decide))
      have hZ6 := Only.blk ho6 hZ5 (hnO _ _ _ hZ5 (by decide))
      have hN6 := Only.blk ho6 hN5 (hnO _ _ _ hN5 (by decide))
      have hk6 : Kept w w6 := K5.out.trans ho6 (fun q hq e => by have := (ownN_lt h5 e).1; have := K3.out.size; omega)
      have n0 := hN5.cell 0 rfl
      have c1 := hB5.cell 1 rfl
      have nf := hN6.frozen 0
      have n6 := hN6.cell 0 rfl
      have hltn := hN5.lt
      have hltb := hB5.lt
      have hN7 := hN6.set 0 (.slice (some ⟨g, 0, none⟩) (L + 1) cap)
      have hsB : w.heap.size ≠ nb := by omega
      have hsZ : w.heap.size + 1 ≠ nb := by omega
      have hB7 := hB6.other (a := ⟨nb, 0, none⟩) hsB (.slice (some ⟨g, 0, none⟩) (L + 1) cap)
      have hZ7 := hZ6.other (a := ⟨nb, 0, none⟩) hsZ (.slice (some ⟨g, 0, none⟩) (L + 1) cap)
      have hk7 : Kept w (w6.setCell ⟨nb, 0, none⟩ (.slice (some ⟨g, 0, none⟩) (L + 1) cap)) := hk6.setCell (fun h => by simp at h; omega) _
      have h7 : RfAt (w6.setCell ⟨nb, 0, none⟩ (.slice (some ⟨g, 0, none⟩) (L + 1) cap)) w3.heap.size (.slice (some ⟨g, 0, none⟩) (L + 1) cap) (l ++ [(N, lv, f, t)]) := ownN_block h6 (fun q hq => Below.heap_setCell w6 _ _ q (Typed.ne (ownN_typed h6 hq) hN6.typed (by decide)))
      have hlen : (l ++ [(N, lv, f, t)]).length = L + 1 := by rw [List.length_append, HL.out]; rfl
      obtain ⟨w7, hw7⟩ : ∃ W, w6.setCell ⟨nb, 0, none⟩ (.slice (some ⟨g, 0, none⟩) (L + 1) cap) = W := ⟨_, rfl⟩
      rw [hw7] at hN7 hB7 hZ7 hk7 h7
      obtain ⟨q, hq⟩ : ∃ q, chkO (addM ⟨l, N, G, Lo⟩ lv f t) = q := ⟨_, rfl⟩
      have HQ := hid hq
      have HCH := hid (rcheck_any w7 (some ⟨g, 0, none⟩) cap (addM ⟨l, N, G, Lo⟩ lv f t) (by show RfSrc w7 (.slice (some ⟨g, 0, none⟩) (l ++ [(N, lv, f, t)]).length cap) _; rw [hlen]; exact h7.src))
      rw [hq] at HCH
      unfold manV addM at HCH
      simp only at HCH
      rw [hlen] at HCH
      have HW7 := hid hw7
      have HN7 := hid hN7
      have HB7 := hid hB7
      have HZ7 := hid hZ7
      have HK7 := hid hk7
      have H7 := hid h7
      have HSB := hid hsB
      have HSZ := hid hsZ
      have m1 := hN6.cell 1 rfl
      have m2 := hN6.cell 2 rfl
      have m3 := hN6.cell 3 rfl
      have hltn6 := hN6.lt
      clear hq hw7 hN7 hB7 hZ7 hk7 h7 hlen hN6 hB6 hZ6 hN5 hB5 hZ5 k5 ho6 h5 h6 hnO hk6 b0 b1 b2 b3 hsB hsZ
      go_wp2_with (at_builtin; refine wpList_append_run rfl _ _ _ rfl rfl rfl Hr ?_)
      rw [HW7.out]
      refine HCH.out.mono ?_
      rintro e w8 ⟨rfl, k8⟩
      have K8 := hid (HK7.out.trans k8 (fun _ _ f => f))
      have hN8 := Only.blk k8 HN7.out (fun f => f)
      have hB8 := Only.blk k8 HB7.out (fun f => f)
      have hZ8 := Only.blk k8 HZ7.out (fun f => f)
      have A8 := hid (ownN_stay H7.out k8)
      have n0 := hN8.cell 0 rfl
      have n1 := hN8.cell 1 rfl
      have n2 := hN8.cell 2 rfl
      have n3 := hN8.cell 3 rfl
      have c1 := hB8.cell 1 rfl
      have z0 := hZ8.cell 0 rfl
      have z1 := hZ8.cell 1 rfl
      have z2 := hZ8.cell 2 rfl
      have z3 := hZ8.cell 3 rfl
      have g0 := hZ8.frozen 0
      have g1 := hZ8.frozen 1
      have g2 := hZ8.frozen 2
      have g3 := hZ8.frozen 3
      have HX := hid hZ8
      have hltn8 := hN8.lt
      have hltb8 := hB8.lt
      have hltz8 := hZ8.lt
      have HLT3 := hid hlt8
      clear k8 hN8 hB8 hZ8 HCH HW7 HK7 HN7 HB7 HZ7 H7 n6 nf m1 m2 m3 hltn hltb hltn6
      by_cases hq : q = 0
      · subst hq
        have HF : Hid (R (.returned (.tuple #[.agg #[.slice (some ⟨g, 0, none⟩) (L + 1) cap, .int .i64 (N + 1), .int .i64 G, .int .i64 Lo], .int .i64 N, .int .i64 0])) ((((w8.setCell ⟨w.heap.size + 1, 0, none⟩ (.slice (some ⟨g, 0, none⟩) (L + 1) cap)).setCell ⟨w.heap.size + 1, 1, none⟩ (.int .i64 (N + 1))).setCell ⟨w.heap.size + 1, 2, none⟩ (.int .i64 G)).setCell ⟨w.heap.size + 1, 3, none⟩ (.int .i64 Lo)).drew) := by
          rw [← HRR.out, HQ1.out, new_yes HQ.out]
          exact ⟨.slice (some ⟨g, 0, none⟩) (L + 1) cap, rfl, ownN_stay (ownN_base (set4_row A8.out _ _ _ _ HLT3.out) K3.out.size) ((Only.refl _ _).drew), (set4 _ _ _ _ _ _ K8.out (Nat.le_add_right _ 1)).drew⟩
        have HE := hid ((((HX.out.set 0 (.slice (some ⟨g, 0, none⟩) (L + 1) cap)).set 1 (.int .i64 (N + 1))).set 2 (.int .i64 G)).set 3 (.int .i64 Lo)).drew
        go_wp2_with fail
        go_region
        go_wp2
        exact ret_man rfl rfl HE.out HF.out rfl rfl
      · have HF : Hid (R (.returned (.tuple #[.agg #[.slice none 0 0, .int .i64 0, .int .i64 0, .int .i64 0], .int .i64 0, .int .i64 q])) ((((w8.setCell ⟨w.heap.size + 1, 0, none⟩ (.slice none 0 0)).setCell ⟨w.heap.size + 1, 1, none⟩ (.int .i64 0)).setCell ⟨w.heap.size + 1, 2, none⟩ (.int .i64 0)).setCell ⟨w.heap.size + 1, 3, none⟩ (.int .i64 0))) := by
          rw [← HRR.out, HQ1.out, new_no (by rw [HQ.out]; exact hq), HQ.out]
          exact turn_nil (set4 _ _ _ _ _ _ K8.out (Nat.le_add_right _ 1))
        have HE := hid ((((HX.out.set 0 (.slice none 0 0)).set 1 (.int .i64 0)).set 2 (.int .i64 0)).set 3 (.int .i64 0))
        go_wp2
        exact ret_man rfl rfl HE.out HF.out rfl rfl
  · have z0 := hZ3.cell 0 rfl
    have z1 := hZ3.cell 1 rfl
    have z2 := hZ3.cell 2 rfl
    have z3 := hZ3.cell 3 rfl
    have g0 := hZ3.frozen 0
    have g1 := hZ3.frozen 1
    have g2 := hZ3.frozen 2
    have g3 := hZ3.frozen 3
    have HF : Hid (R (.returned (.tuple #[.agg #[.slice none 0 0, .int .i64 0, .int .i64 0, .int .i64 0], .int .i64 0, .int .i64 q])) ((((w3.setCell ⟨w.heap.size + 1, 0, none⟩ (.slice none 0 0)).setCell ⟨w.heap.size + 1, 1, none⟩ (.int .i64 0)).setCell ⟨w.heap.size + 1, 2, none⟩ (.int .i64 0)).setCell ⟨w.heap.size + 1, 3, none⟩ (.int .i64 0))) := by
      rw [← HRR.out, HQN.out q rfl hz]
      exact turn_nil (set4 _ _ _ _ _ _ K3.out (Nat.le_add_right _ 1))
    have HE := hid ((((HZ3.out.set 0 (.slice none 0 0)).set 1 (.int .i64 0)).set 2 (.int .i64 0)).set 3 (.int .i64 0))
    clear hZ3 HQN HQY HLE
    go_wp2
    exact ret_man rfl rfl HE.out HF.out rfl rfl
end Go.Proofs.Ytmpkafmkkkpdeaa.J
