/-
  Copen, Cu1, Cu2.
-/
import Derived.Test.YtbhpmeeknbbmmaaQ24
import Derived.Deep.Slices
import Derived.OpenShut
import Derived.ChangeOld
import Derived.Test.YtbhpmeeknbbmmaaQ06
import Derived.Test.YtbhpmeeknbbmmaaQ16
import Derived.Test.YtbhpmeeknbbmmaaQ09
import Derived.Test.YtbhpmeeknbbmmaaQ14

/-
  Samples and bytes that came in.
-/
namespace Go.Proofs.Ytbhpmeeknbbmmaa.C
open Go.RowKit Go.Proofs.Lys
set_option linter.unusedVariables false

open Go.ChangeShapes in
theorem open_row {H : Type} {enc : TypeId × Value → H} {w : World} {spare : Nat → Bool} {held : Bool} {base : Nat} {a0 : Option Addr} {len0 cap0 : Nat} {x : DataW H × List MemPlace} {t e : TypeId} {k : IntKind} (ht : Try.prog.underlying t = some (.slice e)) (he : Try.prog.underlying e = some (.int k)) (hc : Try.prog.cellsOf e = 1)
    (h : ∃ m, DataW.trod enc Try.prog w base spare held m t (Value.slice a0 len0 cap0).cells.toList = some x) : ∃ zs : List Int, SrcOf w (.slice a0 len0 cap0) (zs.map (Value.int k)) ∧ zs.length = len0 ∧ len0 ≤ cap0 ∧ ∀ n ∈ zs, (Lit.int k n).wf = true := by
  obtain ⟨fuel, hf⟩ := h
  rcases open_ints ht he hc hf with ⟨hcs, _⟩ | ⟨a, l, c, zs, hcs, _, hl, hm, hz, _, hcell, hwz⟩
  · simp [Value.cells] at hcs
    obtain ⟨rfl, rfl, rfl⟩ := hcs
    exact ⟨[], .inl ⟨rfl, rfl⟩, rfl, Nat.le_refl _, by simp⟩
  · simp [Value.cells] at hcs
    obtain ⟨rfl, rfl, rfl⟩ := hcs
    have hzl : len0 ≤ zs.length := by rw [hz]; split <;> omega
    have hlen : (zs.take len0).length = len0 := by rw [List.length_take]; omega
    refine ⟨zs.take len0, .inr ⟨a, cap0, by rw [List.length_map, hlen], fun j u hu => ?_⟩, hlen, hl, fun n hn => hwz n (List.mem_of_mem_take hn)⟩
    rw [List.getElem?_map, List.getElem?_take] at hu
    split at hu
    · rw [List.getElem?_eq_getElem (by omega)] at hu
      cases hu
      rw [hcell j (by omega), List.getD_eq_getElem?_getD, List.getElem?_eq_getElem (by omega)]
      rfl
    · cases hu
theorem open_bsrc {H : Type} {enc : TypeId × Value → H} {w : World} {spare : Nat → Bool} {held : Bool} {base : Nat} {a0 : Option Addr} {len0 cap0 : Nat} {x : DataW H × List MemPlace}
    (h : ∃ m, DataW.trod enc Try.prog w base spare held m 23 (Value.slice a0 len0 cap0).cells.toList = some x) : ∃ bs : List UInt8, BSrc w (.slice a0 len0 cap0) bs := by
  obtain ⟨zs, h1, h2, h3, h4⟩ := open_row Try.underlying23 Try.underlying5 (by kernel_rfl) h
  obtain ⟨bs, hl, hb⟩ := bytes_src h1 h4
  exact ⟨bs, hb, a0, cap0, by rw [hl, h2], by omega⟩

theorem in64 {zs : List Int} (h : ∀ n ∈ zs, (Lit.int .i64 n).wf = true) : V.In64 zs := by
  intro n hn
  have := h n hn
  simp [Lit.wf, IntKind.min, IntKind.max, IntKind.bits, IntKind.signed] at this
  omega
theorem Try.cellsSmp : Try.prog.cellsOf 42 = 2 := by kernel_rfl
theorem Try.cellsInt8 : Try.prog.cellsOf 3 = 1 := by kernel_rfl
set_option maxRecDepth 100000 in
theorem open_smp {H : Type} {enc : TypeId × Value → H} {w : World} {spare : Nat → Bool} {held : Bool} {base fuel : Nat} {cs : List Value} {x : DataW H × List MemPlace}
    (h : DataW.trod enc Try.prog w base spare held fuel 42 cs = some x) : ∃ q : Int × Int, cs = [.int .i64 q.1, .int .i64 q.2] ∧ (Lit.int .i64 q.2).wf = true := by
  obtain ⟨xs, m, _, _, hlen, hxl, hf⟩ := DataW.trod_struct Try.underlying42 h
  rw [Try.cellsSmp] at hlen
  have hxl2 : xs.length = 2 := hxl
  match cs, hlen with
  | [v0, v1], _ =>
    have g0 : DataW.trod enc Try.prog w base spare held m 3 ((([v0, v1] : List Value).drop 0).take (Try.prog.cellsOf 3)) = xs[0]? := hf 0 _ rfl
    have g1 : DataW.trod enc Try.prog w base spare held m 3 ((([v0, v1] : List Value).drop 1).take (Try.prog.cellsOf 3)) = xs[1]? := hf 1 _ rfl
    rw [Try.cellsInt8, List.getElem?_eq_getElem (by omega)] at g0 g1
    obtain ⟨n0, e0, _, wf0⟩ := DataW.trod_int Try.underlying3 g0
    obtain ⟨n1, e1, _, wf1⟩ := DataW.trod_int Try.underlying3 g1
    have f0 := List.head_eq_of_cons_eq e0
    have f1 := List.head_eq_of_cons_eq e1
    subst f0 f1
    exact ⟨(n0, n1), rfl, wf1⟩

set_option maxRecDepth 100000 in
theorem open_smps {H : Type} {enc : TypeId × Value → H} {w : World} {spare : Nat → Bool} {held : Bool} {base : Nat} {a0 : Option Addr} {len0 cap0 : Nat} {x : DataW H × List MemPlace}
    (h : ∃ m, DataW.trod enc Try.prog w base spare held m 22 (Value.slice a0 len0 cap0).cells.toList = some x) : ∃ l : Smps, SSrc w (.slice a0 len0 cap0) l ∧ V.In64 (l.map (·.2)) := by
  obtain ⟨fuel, hf⟩ := h
  rcases Deep.open_slice Try.underlying22 hf with ⟨hcs, _⟩ | ⟨a, len, cap, m, n, D, Pl, hcs, _, hl, hm, hmm, _, hx⟩
  · simp [Value.cells] at hcs
    obtain ⟨rfl, rfl, rfl⟩ := hcs
    exact ⟨[], ⟨.inl ⟨_, _, rfl, rfl⟩, _, _, rfl, Nat.le_refl _⟩, fun v hv => by cases hv⟩
  · simp [Value.cells] at hcs
    obtain ⟨rfl, rfl, rfl⟩ := hcs
    have hlm : len0 ≤ m := by rw [hmm]; split <;> omega
    have each : ∀ i, i < len0 → ∃ q : Int × Int, w.cell? (a.add (i * 2)) = some (.int .i64 q.1) ∧ w.cell? (a.add (i * 2 + 1)) = some (.int .i64 q.2) ∧ (Lit.int .i64 q.2).wf = true := by
      intro i hi
      obtain ⟨cs', h1, h2⟩ := hx i (by omega)
      rw [Try.cellsSmp] at h1
      obtain ⟨_, hlen, hcell⟩ := World.cells?_some h1
      obtain ⟨q, rfl, hq⟩ := open_smp h2
      have c0 := hcell 0 (by omega)
      have c1 := hcell 1 (by omega)
      rw [Deep.add_add] at c0 c1
      exact ⟨q, by simpa using c0, by simpa using c1, hq⟩
    obtain ⟨q, hq⟩ := Deep.choose_lt each
    have hin : V.In64 (((List.range len0).map q).map (·.2)) := in64 (fun z hz => by
      obtain ⟨p, hp, rfl⟩ := List.mem_map.1 hz
      obtain ⟨i, hi, rfl⟩ := List.mem_map.1 hp
      exact (hq i (List.mem_range.1 hi)).2.2)
    have hll : ((List.range len0).map q).length = len0 := by simp
    refine ⟨(List.range len0).map q, ⟨?_, some a, cap0, by rw [hll], by rw [hll]; exact hl⟩, hin⟩
    by_cases h0 : len0 = 0
    · subst h0
      exact .inl ⟨_, _, rfl, rfl⟩
    · refine .inr ⟨by rw [hll]; omega, ?_⟩
      obtain ⟨b, o, spot⟩ := a
      have hs : spot = none := by simpa [Addr.add] using World.cell?_spot (hq 0 (by omega)).1
      subst hs
      refine ⟨b, o, cap0, by rw [hll], fun i hi => ?_⟩
      have hi' : i < len0 := by rw [hll] at hi; exact hi
      have := hq i hi'
      rw [add_none, add_none, ← Nat.add_assoc] at this
      simp only [List.getElem_map, List.getElem_range]
      exact ⟨this.1, this.2.1⟩
end Go.Proofs.Ytbhpmeeknbbmmaa.C

/-
  Package chunk: the times and the values of samples.
-/
namespace Go.Proofs.Ytbhpmeeknbbmmaa.C
open Go.RowKit Go.Proofs.Lys
set_option linter.unusedVariables false

theorem TwoN.alloc {w1 wr : World} {xs ys : List Int} {s t : Value} (h : TwoN w1 wr xs ys s t) (o : Obj) : TwoN w1 (wr.alloc o) xs ys s t :=
  ⟨h.one.alloc o, h.two.alloc o, h.kept.alloc o, h.apart⟩

/-- As TwoN.step, beside a block that holds a sample. -/
theorem TwoN.beside {w1 wr : World} {xs ys : List Int} {s t : Value} (h : TwoN w1 wr xs ys s t) (hx : xs.length ≤ 1000) (hy : ys.length ≤ 1000) (X Y : Int) {b : Nat} (hb : Blk wr b [.int .i64 X, .int .i64 Y] 42) :
    ∃ g cap w2, Hid ((Builtin.append_ #[44, 44] 0 #[s, .slice (some ⟨wr.heap.size, 0, none⟩) 1 1]).run Try.prog (wr.alloc (.cells #[.int .i64 X] 3)) = .ok (.slice (some ⟨g, 0, none⟩) (xs.length + 1) cap) w2) ∧ w2.cell? ⟨b, 1, none⟩ = some (.int .i64 Y) ∧
    ∃ g2 cap2 w3, Hid ((Builtin.append_ #[44, 44] 0 #[t, .slice (some ⟨w2.heap.size, 0, none⟩) 1 1]).run Try.prog (w2.alloc (.cells #[.int .i64 Y] 3)) = .ok (.slice (some ⟨g2, 0, none⟩) (ys.length + 1) cap2) w3) ∧
    TwoN w1 w3 (xs ++ [X]) (ys ++ [Y]) (.slice (some ⟨g, 0, none⟩) (xs.length + 1) cap) (.slice (some ⟨g2, 0, none⟩) (ys.length + 1) cap2) := by
  obtain ⟨g, cap, w2, Hr, o2, k2, n2⟩ := own_num2 h.one h.kept.size (by omega) X
  have hlow : ∀ j, s.ownBlock = some j → w1.heap.size ≤ j := fun j hj => (h.one.lt j hj).1
  have hlow2 : ∀ j, t.ownBlock = some j → w1.heap.size ≤ j ∧ j < wr.heap.size := fun j hj => h.two.lt j hj
  have kk2 : Kept w1 w2 := h.kept.trans k2 (fun j hj e => by have := hlow j e; omega)
  have ht2 := own_only h.two k2 (fun j hj e => h.apart j e hj)
  have hb2 : Blk w2 b [.int .i64 X, .int .i64 Y] 42 := k2.blk hb (fun e => (own_typed h.one e).ne hb.typed (by decide) rfl)
  obtain ⟨g2, cap2, w3, Hr2, o3, k3, n3⟩ := own_num2 ht2 kk2.size (by omega) Y
  refine ⟨g, cap, w2, Hr, hb2.cell 1 rfl, g2, cap2, w3, Hr2, ?_, o3, kk2.trans k3 (fun j hj e => by have := (hlow2 j e).1; omega), ?_⟩
  · refine own_only o2 k3 (fun j hj e => ?_)
    have hj' : g = j := by simpa [Value.ownBlock] using hj
    subst hj'
    rcases n2 with e2 | e2
    · exact h.apart g e2 e
    · have := (hlow2 g e).2
      omega
  · intro j hj hj2
    have h1 : g = j := by simpa [Value.ownBlock] using hj
    have h2 : g2 = j := by simpa [Value.ownBlock] using hj2
    have hg : g < w2.heap.size := (o2.lt g rfl).2
    have e : g = g2 := h1.trans h2.symm
    rcases n3 with e3 | e3
    · rcases n2 with e2 | e2
      · exact h.apart g e2 (by rw [e]; exact e3)
      · have := (hlow2 g2 e3).2
        omega
    · omega

set_option maxRecDepth 100000 in
set_option maxHeartbeats 1600000 in
theorem apart_any (w : World) (v : Value) (l : Smps) (hs : SmpSrc w v l) (hl : l.length ≤ 1000) :
    Calls Try.prog 17 #[v] w fun e w' => ∃ s t, e = .returned (.tuple #[s, t]) ∧ TwoN w w' (l.map (·.1)) (l.map (·.2)) s t := by
  obtain ⟨a0, c0, e0⟩ := hs.len
  obtain ⟨L, hL⟩ : ∃ L, l.length = L := ⟨_, rfl⟩
  rw [hL] at e0 hl
  subst e0
  have HS := hid hs
  have HL := hid hL
  clear hs hL
  go_enter Try.func17, Try.ntmps17
  go_wp2_with fail
  go_loopw [2, 3, 8] (fun s t i wr => ∃ (k : Nat), k ≤ L ∧ i = .int .i64 (k : Int) ∧ TwoN w wr ((l.take k).map (·.1)) ((l.take k).map (·.2)) s t) (fun _ _ i _ => L - (intOf i).toNat)
  case atStart => exact ⟨0, by omega, rfl, World.ownsRow_nil _ _ _ _, World.ownsRow_nil _ _ _ _, Only.refl _ _, fun j hj => by cases hj⟩
  case round =>
    obtain ⟨k, hk, rfl, hT⟩ := hrel
    by_cases hlt : k < L
    · have hkl : k < l.length := by have := HL.out; omega
      have hlen : (l.take k).length = k := by rw [List.length_take]; omega
      obtain ⟨b, o, rfl, x0, x1⟩ := (HS.out.stay hT.kept).cell HL.out k hlt
      have eX : (l.take (k + 1)).map (·.1) = (l.take k).map (·.1) ++ [l[k].1] := by rw [List.take_succ_eq_append_getElem hkl, List.map_append]; rfl
      have eY : (l.take (k + 1)).map (·.2) = (l.take k).map (·.2) ++ [l[k].2] := by rw [List.take_succ_eq_append_getElem hkl, List.map_append]; rfl
      obtain ⟨X, hX⟩ : ∃ X, l[k].1 = X := ⟨_, rfl⟩
      obtain ⟨Y, hY⟩ : ∃ Y, l[k].2 = Y := ⟨_, rfl⟩
      rw [hX] at x0 eX
      rw [hY] at x1 eY
      obtain ⟨g, cap, w2, Hr, y1, g2, cap2, w3, Hr2, hT3⟩ := (hT.alloc (.cells #[.int .i64 X, .int .i64 Y] 42)).beside (by rw [List.length_map, hlen]; omega) (by rw [List.length_map, hlen]; omega) X Y (Blk.new wr [.int .i64 X, .int .i64 Y] 42)
      rw [← eX, ← eY] at hT3
      simp only [List.length_map, hlen, World.size_alloc] at Hr Hr2 hT3
      have HT3 := hid hT3
      clear hT3 hT hX hY eX eY hlen hkl
      go_wp2_with (at_builtin; first | refine wpList_append_run rfl _ _ _ rfl rfl rfl Hr ?_ | refine wpList_append_run rfl _ _ _ rfl rfl rfl Hr2 ?_)
      go_roundw
      case rel => exact ⟨k + 1, by omega, by go_num, HT3.out⟩
      case measure => simp [intOf]; omega
    · have e : k = L := by omega
      have HE : Hid (TwoN w wr (l.map (·.1)) (l.map (·.2)) u2 u3) := by
        have h2 := hT
        rw [List.take_of_length_le (by have := HL.out; omega)] at h2
        exact h2
      clear hT
      go_wp2_with fail
      go_ret2
      exact ⟨_, _, rfl, HE.out⟩
end Go.Proofs.Ytbhpmeeknbbmmaa.C

/-
  Package chunk: Pack.
-/
namespace Go.Proofs.Ytbhpmeeknbbmmaa.C
open Go.RowKit Go.Proofs.Lys
set_option linter.unusedVariables false

/-- The bytes that are laid so far, beside a block with the two parts. -/
structure PkR (w3 wr : World) (q : Nat) (u2 u3 : Value) (b : Value) (xs : List UInt8) : Prop where
  row : wr.ownsRow w3.heap.size 5 1 b xs.length (xs.map bV)
  kept : Kept w3 wr
  lit : Blk wr q [u2, u3] 23
  new : w3.heap.size ≤ q

theorem PkR.step {w3 wr w5 : World} {q : Nat} {u2 u3 b v5 u : Value} {xs p X : List UInt8} (h : PkR w3 wr q u2 u3 b xs) (k5 : Kept wr w5) (h5 : w5.ownsRow wr.heap.size 5 1 v5 p.length (p.map bV)) (hX : SrcOf w3 u (X.map bV)) (hl : xs.length + p.length + X.length ≤ 100000) :
    ∃ a6 c6 w6, Hid ((Builtin.append_ #[23, 23] 0 #[b, v5]).run Try.prog w5 = .ok (.slice a6 (xs.length + p.length) c6) w6) ∧
    ∃ a7 c7 w7, Hid ((Builtin.append_ #[23, 23] 0 #[.slice a6 (xs.length + p.length) c6, u]).run Try.prog w6 = .ok (.slice a7 (xs.length + p.length + X.length) c7) w7) ∧
    PkR w3 w7 q u2 u3 (.slice a7 (xs.length + p.length + X.length) c7) (xs ++ p ++ X) := by
  have hz := h.kept.size
  have hz5 := k5.size
  have hr5 := own_only h.row k5 (fun _ _ f => f)
  obtain ⟨a6, c6, w6, Hr6, ho6, hon6⟩ := row_app hr5 (by omega) (own_src h5) (by omega)
  have hk5 : Kept w3 w5 := h.kept.trans k5 (fun _ _ f => f)
  have hk6 := only_kept hk5 hr5 (Nat.le_refl _) hon6
  have hl5 : Blk w5 q [u2, u3] 23 := k5.blk h.lit (fun f => f)
  have hl6 : Blk w6 q [u2, u3] 23 := hon6.blk hl5 (fun e => (own_typed hr5 e).ne hl5.typed (by decide) rfl)
  have e6 : (xs ++ p).length = xs.length + p.length := List.length_append
  have hz6 := hk6.size
  obtain ⟨a7, c7, w7, Hr7, ho7, hon7⟩ := row_app ho6 (by omega) (hX.stay hk6) (by omega)
  rw [e6] at Hr7 ho7
  exact ⟨a6, c6, w6, Hr6, a7, c7, w7, Hr7, ho7, only_kept hk6 ho6 (Nat.le_refl _) hon7, hon7.blk hl6 (fun e => (own_typed ho6 e).ne hl6.typed (by decide) rfl), h.new⟩

set_option maxRecDepth 100000 in
set_option maxHeartbeats 3200000 in
theorem pack_any (w : World) (v : Value) (l : Smps) (hs : SmpSrc w v l) (hl : l.length ≤ 1000) : Calls Try.prog 8 #[v] w (PackPost w l) := by
  obtain ⟨a0, c0, e0⟩ := hs.len
  by_cases h0 : l = []
  · subst h0
    rw [List.length_nil] at e0
    subst e0
    go_enter Try.func8, Try.ntmps8
    go_wp2_with fail
    go_ret2
    exact ⟨Only.refl _ w, _, [], 1, rfl, .inl ⟨rfl, rfl, rfl⟩, World.ownsRow_nil _ _ _ _⟩
  · have hp := apart_any w v l hs hl
    have hpos : l.length ≠ 0 := fun h => h0 (List.length_eq_zero_iff.1 h)
    obtain ⟨L, hL⟩ : ∃ L, l.length = L := ⟨_, rfl⟩
    rw [hL] at e0 hl hpos
    subst e0
    have HL := hid hL
    have H0 := hid h0
    have hL0 : ((L : Int) == 0) = false := by simp; omega
    clear hL h0 hs
    go_enter Try.func8, Try.ntmps8
    go_wp2_with fail
    refine hp.mono ?_
    rintro e w1 ⟨s, t, rfl, hT⟩
    clear hp
    have HT := hid hT
    have hst := S.pack_any w1 s (l.map (·.1)) (own_src hT.one) (by rw [List.length_map, HL.out]; exact hl)
    clear hT
    go_wp2_with fail
    refine hst.mono ?_
    rintro e w2 ⟨k2, u2, bs2, x2, rfl, hP2, ho2⟩
    clear hst
    have HP2 := hid hP2
    have HO2 := hid ho2
    have HK2 : Hid (Kept w w2) := HT.out.kept.trans k2 (fun _ _ f => f)
    have hT2 := own_only HT.out.two k2 (fun _ _ f => f)
    by_cases hx : x2 = 0
    · subst hx
      have hva := V.pack_any w2 t (l.map (·.2)) (own_src hT2) (by rw [List.length_map, HL.out]; exact hl)
      clear hP2 ho2 k2 hT2
      go_wp2_with fail
      refine hva.mono ?_
      rintro e w3 ⟨k3, u3, bs3, x3, rfl, hP3, ho3⟩
      clear hva
      have hx3 : x3 = 0 := by
        rcases hP3 with ⟨h, _⟩ | ⟨_, _, h⟩
        · exfalso
          rcases HP2.out with ⟨_, _, h'⟩ | ⟨_, _, _, h'⟩ | ⟨h', _⟩
          · cases h'
          · cases h'
          · rw [List.length_map] at h h'
            omega
        · exact h
      subst hx3
      have HP3 := hid hP3
      have HO3 := hid ho3
      have HO23 := hid (own_only HO2.out k3 (fun _ _ f => f))
      have HK3 : Hid (Kept w w3) := HK2.out.trans k3 (fun _ _ f => f)
      have hA := SPacks.small HP2.out
      have hC := HP3.out.small
      obtain ⟨A, hAe⟩ : ∃ A, bs2.length = A := ⟨_, rfl⟩
      obtain ⟨C, hCe⟩ : ∃ C, bs3.length = C := ⟨_, rfl⟩
      rw [hAe] at hA
      rw [hCe] at hC
      have HA := hid hAe
      have HC := hid hCe
      obtain ⟨ua, uc, hu2⟩ := own_slice HO23.out
      obtain ⟨va, vc, hu3⟩ := own_slice HO3.out
      rw [hAe] at hu2
      rw [hCe] at hu3
      subst hu2
      subst hu3
      clear hP3 ho3 k3 hAe hCe
      have hput1 := U.put_any w3 (L : Int)
      rw [uNU (by omega)] at hput1
      go_wp2_with fail
      refine hput1.mono ?_
      rintro e w4 ⟨v4, rfl, ho4, k4⟩
      clear hput1
      obtain ⟨p1, hp1⟩ : ∃ p, putN L = p := ⟨_, rfl⟩
      obtain ⟨p2, hp2⟩ : ∃ p, putN A = p := ⟨_, rfl⟩
      obtain ⟨p3, hp3⟩ : ∃ p, putN C = p := ⟨_, rfl⟩
      have l1 := putN_ten (n := L) (by omega)
      have l2 := putN_ten (n := A) (by omega)
      have l3 := putN_ten (n := C) (by omega)
      rw [hp1] at ho4 l1
      rw [hp2] at l2
      rw [hp3] at l3
      have hlit := Blk.new w4 [.slice ua A uc, .slice va C vc] 23
      have HR0 : Hid (PkR w3 (w4.alloc (.cells #[.slice ua A uc, .slice va C vc] 23)) w4.heap.size (.slice ua A uc) (.slice va C vc) v4 p1) := ⟨ho4.alloc _, k4.alloc _, hlit, k4.size⟩
      have HP : Hid (putN L = p1 ∧ putN A = p2 ∧ putN C = p3) := ⟨hp1, hp2, hp3⟩
      clear ho4 k4 hlit hp1 hp2 hp3
      obtain ⟨Q, hQ⟩ : ∃ Q, w4.heap.size = Q := ⟨_, rfl⟩
      rw [hQ] at HR0
      go_wp2_with fail
      go_loopw [9, 43] (fun b i wr => ∃ (k : Nat) (xs : List UInt8), i = .int .i64 (k : Int) ∧ PkR w3 wr Q (.slice ua A uc) (.slice va C vc) b xs ∧ ((k = 0 ∧ xs = p1) ∨ (k = 1 ∧ xs = p1 ++ p2 ++ bs2) ∨ (k = 2 ∧ xs = p1 ++ p2 ++ bs2 ++ p3 ++ bs3))) (fun _ i _ => 2 - (intOf i).toNat)
      case atStart => exact ⟨0, p1, rfl, HR0.out, .inl ⟨rfl, rfl⟩⟩
      case round =>
        obtain ⟨k, xs, rfl, hR, ⟨rfl, rfl⟩ | ⟨rfl, hxs⟩ | ⟨rfl, hxs⟩⟩ := hrel
        · have hput2 := U.put_any wr (A : Int)
          rw [uNU (by omega), HP.out.2.1] at hput2
          have x0 := hR.lit.cell 0 rfl
          have x1 := hR.lit.cell 1 rfl
          have HR := hid hR
          clear hR
          go_wp2_with fail
          refine hput2.mono ?_
          rintro e w5 ⟨v5, rfl, ho5, k5⟩
          clear hput2 x0 x1
          obtain ⟨a6, c6, w6, Hr6, a7, c7, w7, Hr7, hR7⟩ := HR.out.step k5 ho5 (own_src HO23.out) (by have := HA.out; omega)
          have HR7 := hid hR7
          rw [HA.out] at Hr7 HR7
          clear hR7 ho5 k5
          go_wp2_with (at_builtin; first | refine wpList_append_run rfl _ _ _ rfl rfl rfl Hr6 ?_ | refine wpList_append_run rfl _ _ _ rfl rfl rfl Hr7 ?_)
          go_roundw
          case rel => exact ⟨1, _, by go_num, HR7.out, .inr (.inl ⟨rfl, rfl⟩)⟩
          case measure => simp [intOf]
        · have HX := hid hxs
          obtain ⟨M, hM⟩ : ∃ M, xs.length = M := ⟨_, rfl⟩
          have hMl : M ≤ 20000 := by have := HA.out; rw [← hM, hxs]; simp only [List.length_append]; omega
          have HM := hid hM
          clear hxs hM
          have hput2 := U.put_any wr (C : Int)
          rw [uNU (by omega), HP.out.2.2] at hput2
          have x0 := hR.lit.cell 0 rfl
          have x1 := hR.lit.cell 1 rfl
          have HR := hid hR
          clear hR
          go_wp2_with fail
          refine hput2.mono ?_
          rintro e w5 ⟨v5, rfl, ho5, k5⟩
          clear hput2 x0 x1
          obtain ⟨a6, c6, w6, Hr6, a7, c7, w7, Hr7, hR7⟩ := HR.out.step k5 ho5 (own_src HO3.out) (by have := HM.out; have := HC.out; omega)
          have HR7 := hid hR7
          rw [HC.out] at Hr7 HR7
          rw [HM.out] at Hr6 Hr7 HR7
          clear hR7 ho5 k5
          go_wp2_with (at_builtin; first | refine wpList_append_run rfl _ _ _ rfl rfl rfl Hr6 ?_ | refine wpList_append_run rfl _ _ _ rfl rfl rfl Hr7 ?_)
          go_roundw
          case rel => exact ⟨2, _, by go_num, HR7.out, .inr (.inr ⟨rfl, by rw [HX.out]⟩)⟩
          case measure => simp [intOf]
        · subst hxs
          have HE : Hid (Kept w wr ∧ wr.ownsRow w.heap.size 5 1 u9 (chunkB l bs2 bs3).length ((chunkB l bs2 bs3).map bV)) := by
            refine ⟨HK3.out.trans hR.kept (fun _ _ f => f), ?_⟩
            have e1 : chunkB l bs2 bs3 = p1 ++ p2 ++ bs2 ++ p3 ++ bs3 := by
              unfold chunkB
              rw [HL.out, HA.out, HC.out, HP.out.1, HP.out.2.1, HP.out.2.2]
              simp only [List.append_assoc]
            rw [e1]
            exact own_base hR.row HK3.out.size
          clear hR
          go_wp2_with fail
          go_ret2
          exact ⟨HE.out.1, _, chunkB l bs2 bs3, 0, rfl, .inr (.inr ⟨H0.out, bs2, bs3, HP2.out, HP3.out, rfl, rfl⟩), HE.out.2⟩
    · have hx' : (x2 == 0) = false := by simp [hx]
      have HX := hid hx
      clear hx hP2 ho2 k2 hT2
      go_wp2_with fail
      go_ret2
      exact ⟨HK2.out, _, [], x2, rfl, .inr (.inl ⟨H0.out, bs2, x2, HP2.out, HX.out, rfl, rfl⟩), World.ownsRow_nil _ _ _ _⟩
end Go.Proofs.Ytbhpmeeknbbmmaa.C
