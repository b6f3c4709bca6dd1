/-
  Ntxt.
-/
import Derived.Test.YtllfanlhgnkcfaaGreatDoorQ19
import Derived.Test.YtllfanlhgnkcfaaGreatDoorQ21
namespace Go.Proofs.YtllfanlhgnkcfaaGreatDoor.N
open Go.RowKit Go.Proofs.Lys
set_option linter.unusedVariables false
set_option linter.unusedSimpArgs false
def txtB (l : Labs) : ByteArray := match makeL l with
 | some m => mkB (textL m)
 | none => ⟨#[]⟩
theorem labT_len {x : Lab} (h : labOk x = true) : (labT x).length ≤ 300 := by
 simp only [labOk, nameOk, valOk, Bool.and_eq_true, decide_eq_true_eq] at h
 have h1 := h.1.1.1.2
 have h2 := h.2.2
 have h3 := quote_len x.2.data.toList
 rw [← Lib.size_eq] at h3
 simp only [labT, List.length_append, List.length_cons, List.length_nil]
 rw [← Lib.size_eq]
 omega
theorem accT_len {l : Labs} (h : ∀ x ∈ l, labOk x = true) : (accT l).length ≤ 301 * l.length := by
 cases l with
 | nil => simp [accT]
 | cons x r =>
  have hr : ∀ m : Labs, (∀ x ∈ m, labOk x = true) → (restT m).length ≤ 301 * m.length := fun m hm => by
   induction m with
   | nil => simp [restT]
   | cons y m ih =>
    have e : restT (y :: m) = 44 :: (labT y ++ restT m) := by simp [restT]
    have h1 := labT_len (hm y (List.mem_cons_self ..))
    have h2 := ih (fun z hz => hm z (List.mem_cons_of_mem _ hz))
    rw [e, List.length_cons, List.length_append, List.length_cons]
    omega
  have h1 := labT_len (h x (List.mem_cons_self ..))
  have h2 := hr r (fun z hz => h z (List.mem_cons_of_mem _ hz))
  simp only [accT, List.length_cons, List.length_append]
  omega
set_option maxRecDepth 100000 in
set_option maxHeartbeats 1600000 in
theorem text_any (w : World) (v : Value) (l : Labs) (hs : LabSrc w v l) (hl : l.length ≤ 100000) (hB : Small l) :
  Calls Tryz.prog 76 #[v] w fun e w' => e = .returned (.string (txtB l)) ∧ Kept w w' := by
 have HM := hid (make_any w v l hs hl hB)
 obtain ⟨a1, c1, rfl⟩ := hs.len
 clear hs
 cases hm : makeL l with
 | none =>
  have Ht : Hid (txtB l = ⟨#[]⟩) := by refine hid ?_; unfold txtB; rw [hm]
  rw [hm] at HM
  go_enter Tryz.func76, Tryz.ntmps76
  go_wp2_with (go_at_call 44; refine HM.out.mono ?_)
  rintro e w1 ⟨⟨u, n, rfl, rfl, rfl⟩, k1⟩
  go_wp2
  go_ret
  exact ⟨by rw [Ht.out]; rfl, k1⟩
 | some m =>
  have Ht : Hid (txtB l = mkB (textL m)) := by refine hid ?_; unfold txtB; rw [hm]
  have HD := hid (makeL_made hm)
  rw [hm] at HM
  clear hm
  go_enter Tryz.func76, Tryz.ntmps76
  go_wp2_with (go_at_call 44; refine HM.out.mono ?_)
  rintro e w1 ⟨⟨u, n, rfl, rfl, hat⟩, k1⟩
  obtain ⟨g, cap, rfl⟩ := ownN_some hat HD.out.len
  have HA := hid hat
  have HK := hid k1
  have hsz := k1.size
  have hgl := (ownN_lt hat rfl).2
  have hL16 := HD.out.len16
  have hL0 := HD.out.len
  clear hat k1
  have HS0 : Hid (Bld (w1.alloc (.cells #[.pointer none, .slice none 0 0] 139)) w1.heap.size w1.heap.size [] ∧ Below w1.heap.size w1 (w1.alloc (.cells #[.pointer none, .slice none 0 0] 139))) :=
   ⟨Lib.IsBuilderF.of (Lib.fresh_isBuilder 139 5 w1), (Below.refl _ w1).alloc (Nat.le_refl _) _⟩
  obtain ⟨M, hM⟩ : ∃ M, m.length = M := ⟨_, rfl⟩
  rw [hM] at HA hL16 hL0 ⊢
  have HMl := hid hM
  clear hM
  go_wp2
  generalize w1.alloc (.cells #[.pointer none, .slice none 0 0] 139) = w2 at HS0 ⊢
  go_loopw [6, 18] (fun q i wr => ∃ (k : Nat) (Q : ByteArray), k ≤ M ∧ i = .int .i64 (k : Int) ∧ q = .string Q ∧ Q.data.toList = [if m.take k = [] then 123 else 44] ∧ Bld wr w1.heap.size w1.heap.size (accT (m.take k)) ∧ Below w1.heap.size w1 wr ∧ w1.heap.size < wr.heap.size) (fun _ i _ => M - (intOf i).toNat)
  case atStart => exact ⟨0, _, by omega, rfl, rfl, rfl, HS0.out.1, HS0.out.2, by
   rcases HS0.out.1 with h | h
   ·exact (Array.getElem?_eq_some_iff.1 h.2.choose_spec.1).1
   ·exact (Array.getElem?_eq_some_iff.1 h.2.choose_spec.1).1⟩
  case round =>
   obtain ⟨k, Q, hk, rfl, rfl, hQ, hb, hw, hlt0⟩ := hrel
   have HQ := hid hQ
   have hQs : Q.size = 1 := by rw [Lib.size_eq, hQ]; rfl
   have HB := hid hb
   have HW := hid hw
   have hKw : Kept w1 wr := ⟨hw.os, hw.tape, hw.output, hw.size, fun q hq _ => hw.block q hq⟩
   have HKw := hid hKw
   have hal : (accT (m.take k)).length ≤ 301 * 16 := by
    have h1 := accT_len (l := m.take k) (fun x hx => HD.out.ok x (List.mem_of_mem_take hx))
    have h2 : (m.take k).length ≤ 16 := by rw [List.length_take]; omega
    omega
   by_cases hlt : k < M
   ·have hkl : k < m.length := by have := HMl.out; omega
    obtain ⟨b1, o1, e1, x1, y1⟩ := (LabAt.src (ownN_stay (by have := HA.out; rw [← HMl.out] at this; exact this) hKw)).cell rfl k hkl
    simp only [Option.some.injEq, Addr.mk.injEq] at e1
    obtain ⟨rfl, rfl, _⟩ := e1
    rw [Nat.zero_add] at x1 y1
    have hok := HD.out.ok _ (List.getElem_mem hkl)
    have HT : Hid (accT (m.take (k + 1)) = accT (m.take k) ++ ((if m.take k = [] then 123 else 44) :: labT (m[k]'hkl))) := by
     refine hid ?_
     rw [← List.take_append_getElem hkl, accT_snoc]
    have hnil : Hid ([if m.take (k + 1) = [] then (123 : UInt8) else 44] = [44]) := by
     refine hid ?_
     rw [if_neg]
     intro e
     have h5 := congrArg List.length e
     rw [List.length_take, List.length_nil] at h5
     omega
    clear hb hw hQ hKw
    generalize m[k]'hkl = x at x1 y1 hok HT
    obtain ⟨X, Y⟩ := x
    simp only at x1 y1
    obtain ⟨hX, hY⟩ : X.size ≤ 64 ∧ Y.size ≤ 64 := by
     simp only [labOk, nameOk, valOk, Bool.and_eq_true, decide_eq_true_eq] at hok
     exact ⟨hok.1.1.1.2, hok.2.2⟩
    have hc1 : Q.size + X.size ≤ 9223372036854775807 := by omega
    have hq2 : (⟨#[61, 34]⟩ : ByteArray).size = 2 := rfl
    have Hcat : Hid ((Q ++ X ++ (⟨#[61, 34]⟩ : ByteArray)).data.toList = [if m.take k = [] then 123 else 44] ++ X.data.toList ++ [61, 34]) := by
     refine hid ?_
     rw [ByteArray.data_append, ByteArray.data_append, Array.toList_append, Array.toList_append, HQ.out]
    have H1 := hid (wstring_any (Lib.IsBuilderF.alloc HB.out (.cells #[.string X, .string Y] 71)) (Q ++ X ++ ⟨#[61, 34]⟩) (by rw [ByteArray.size_append, ByteArray.size_append, hq2]; omega) (by simp; omega))
    rw [Hcat.out] at H1
    go_wp2_with fail
    have hbox := Blk.new wr [.string X, .string Y] 71
    have HBel := hid (HW.out.alloc (Nat.le_of_lt hlt0) (.cells #[.string X, .string Y] 71))
    have hsz1 : (wr.alloc (.cells #[.string X, .string Y] 71)).heap.size = wr.heap.size + 1 := by simp
    generalize hw3 : wr.alloc (.cells #[.string X, .string Y] 71) = w3 at H1 hbox HBel hsz1 ⊢
    clear hw3
    refine H1.out.mono ?_
    rintro e w4 ⟨rfl, hb4, hk4⟩
    have hs4 := hk4.size
    have hbox4 : Blk w4 wr.heap.size [.string X, .string Y] 71 := hk4.others _ _ hbox (fun e => by have := Option.some.inj e; omega) (fun c f e => by cases e)
    have b1 := hbox4.cell 1 rfl
    have HK4 := hid hk4
    have hl4 : (accT (m.take k) ++ ([if m.take k = [] then 123 else 44] ++ X.data.toList ++ [61, 34])).length ≤ 301 * 16 + 100 := by
     simp only [List.length_append, List.length_cons, List.length_nil, ← Lib.size_eq]
     omega
    generalize hac : accT (m.take k) ++ ([if m.take k = [] then 123 else 44] ++ X.data.toList ++ [61, 34]) = acc at hb4 hl4
    have H2 := hid (quoted_any hb4 Y (by omega) (by omega) (by omega))
    clear hb4 hk4 H1
    go_wp2_with (go_at_call 95; refine H2.out.mono ?_)
    rintro e w5 ⟨rfl, hb5, hk5⟩
    have hs5 := hk5.size
    have HK5 := hid hk5
    have hl5 := quote_len Y.data.toList
    rw [← Lib.size_eq] at hl5
    have H3 := hid (wbyte_any hb5 34 (by rw [List.length_append]; omega) (by omega))
    clear hb5 hk5 H2
    go_wp2_with (go_at_call 96; refine H3.out.mono ?_)
    rintro e w6 ⟨rfl, hb6, hk6⟩
    have hs6 := hk6.size
    have HB6 : Hid (Bld w6 w1.heap.size w1.heap.size (accT (m.take (k + 1)))) := by
     refine hid ?_
     rw [HT.out]
     have e : acc ++ quoteL Y.data.toList ++ [34] = accT (m.take k) ++ ((if m.take k = [] then 123 else 44) :: labT (X, Y)) := by
      rw [← hac]
      simp [labT]
     rw [← e]
     exact hb6
    clear hb6 H3
    go_wp2
    refine ⟨⟨k + 1, _, by omega, by go_num, rfl, ?_, HB6.out, HBel.out.trans (HK4.out.below.trans (HK5.out.below.trans hk6.below)), by omega⟩, ?_⟩
    ·rw [hnil.out]
    ·simp [intOf]
     omega
   ·have e : k = M := by omega
    subst e
    have H1 := hid (wbyte_any HB.out 125 (by omega) (by omega))
    clear hb
    go_wp2_with (go_at_call 96; refine H1.out.mono ?_)
    rintro e w4 ⟨rfl, hb4, hk4⟩
    have hs4 := hk4.size
    have H2 := hid (bstring_any hb4 (by omega))
    have HK4 := hid hk4
    clear hb4 hk4 H1
    go_wp2_with (go_at_call 97; refine H2.out.mono ?_)
    rintro e w5 ⟨rfl, hk5⟩
    go_wp2
    go_ret
    refine ⟨?_, ?_⟩
    ·rw [Ht.out]
     have : m.take k = m := List.take_of_length_le (by have := HMl.out; omega)
     rw [this]
     rfl
    ·have hb := HW.out.trans (HK4.out.below.trans hk5)
     exact HK.out.trans (O' := fun _ => False) ⟨hb.os, hb.tape, hb.output, hb.size, fun q hq _ => hb.block q hq⟩ (fun _ _ f => f)
end Go.Proofs.YtllfanlhgnkcfaaGreatDoor.N
