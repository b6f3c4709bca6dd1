/-
  The program's Pick, walked.
-/
import Derived.Test.YtjifcgphlidimaaDoorJpp
import Derived.Laws.Rows
import Derived.WalkSpells
namespace Go.Proofs.YtjifcgphlidimaaDoor.J
open Go.RowKit Go.Proofs.Lys
set_option linter.unusedVariables false
set_option linter.unusedSimpArgs false

theorem PkA.stay {A : Nat} {l : List Rf} {j : Nat} {w w' : World} (h : PkA A l j w) (k : Kept w w') : PkA A l j w' := by
  obtain ⟨vs, h1, h2, h3, h4⟩ := h
  exact ⟨vs, h1, Only.blk k h2 (fun f => f), fun n hn => own_only (h3 n hn) k (fun _ _ f => f), h4⟩
theorem num_lv {a n : Int} : ∀ (l : List Rf), numO a n l = true → ∀ x ∈ l, 0 ≤ x.2.1 ∧ x.2.1 ≤ 20 := by
  intro l
  induction l generalizing a with
  | nil => intro _ x hx; cases hx
  | cons y r ih =>
    intro h x hx
    rw [numO] at h
    simp only [Bool.and_eq_true, decide_eq_true_eq] at h
    rcases List.mem_cons.1 hx with rfl | hx
    · omega
    · exact ih h.2 x hx
theorem chk_zero {m : Man} (h : chkO m = 0) : m.bl.length ≤ 200 ∧ ∀ x ∈ m.bl, 0 ≤ x.2.1 ∧ x.2.1 ≤ 20 := by
  unfold chkO at h
  split at h
  · cases h
  · split at h
    · cases h
    · rename_i h1 h2
      rw [Bool.not_eq_false, Bool.and_eq_true] at h2
      exact ⟨by omega, num_lv m.bl h2.2⟩
theorem lvl_le (n : Int) (l : List Rf) : (lvl n l).length ≤ l.length := by
  unfold lvl
  rw [List.length_map]
  exact List.length_filter_le _ _

theorem cut_to (g L cap M : Nat) (hM : M ≤ cap) (hc : cap ≠ 0) (w : World) : (Instr.sliceAt 42 (.slice (some ⟨g, 0, none⟩) L cap) none (some (.int .i64 (M : Int))) none).run Tryd.prog w = .ok (.slice (some ⟨g, 0, none⟩) M cap) w := by
  have h1 : (0 : Int) ≤ (M : Int) ∧ (M : Int) ≤ (cap : Int) := by omega
  have hs : (sizeOf 3).run Tryd.prog w = .ok 1 w := by kernel_rfl
  simp [Instr.sliceAt, Instr.slice, Instr.sliceBounds, Instr.sliceBound, run_underlying Tryd.underlying42, asIntOf, hM, hs, Addr.add, Result.andThen]
theorem idx_any (vs : List Value) (n : Nat) (v : Value) (hn : n < 21) (hv : vs[n]? = some v) (w : World) : (Instr.index 68 (.agg vs.toArray) (.int .i64 (n : Int))).run Tryd.prog w = .ok v w := by
  have hz : (sizeOf 42).run Tryd.prog w = .ok 1 w := by kernel_rfl
  have ha : (isAgg 42).run Tryd.prog w = .ok false w := by kernel_rfl
  have h1 : (n : Int) < 21 := by omega
  simp [Instr.index, asIntOf, run_underlying Tryd.underlying68, hz, ha, Result.andThen, part, h1, hv]
  intro h
  omega

set_option maxHeartbeats 400000 in
theorem iclone_some (w : World) (a : Addr) (c : Nat) (l : List Int) (hc : SrcOf w (.slice (some a) l.length c) (l.map (Value.int .i64))) (hl : l.length ≤ 1000000) :
    Calls Tryd.prog 33 #[.slice (some a) l.length c] w fun e w' => ∃ v, e = .returned v ∧ IntAt w' w.heap.size v l ∧ Kept w w' := by
  have hb : ∀ w : World, (Instr.buildSlice 42 0 #[]).run Tryd.prog w = .ok (.slice (some ⟨w.heap.size, 0, none⟩) 0 0) (w.alloc (.cells #[] 3)) := fun w => by kernel_rfl
  have h0 : (w.alloc (.cells #[] 3)).ownsRow w.heap.size 3 1 (.slice (some ⟨w.heap.size, 0, none⟩) 0 0) 0 [] := World.ownsRow_lit w #[] 0 (Nat.le_refl _) (by decide) rfl
  obtain ⟨v', w1, hrun, hown, hgrow, _⟩ := append_src (P := Tryd.prog) Tryd.underlying42 infoI6 rfl (by decide) h0 (hc.stay ((Only.refl _ w).alloc _)) (ints_one l) (by simp; omega) (by simp)
  have Hr := hid hrun
  have hk : Hid (Kept w w1) := hid (((Only.refl _ w).alloc _).grown hgrow (fun k hk hlt => by simp [Value.ownBlock] at hk; omega))
  have ho : Hid (IntAt w1 w.heap.size v' l) := hid (by unfold IntAt; simpa using hown)
  clear hrun hown hgrow h0 hc
  have he : ∀ (x : Option Addr) (n k : Nat) (w : World), (Go.binOp .eql 42 (.slice x n k) (.slice none 0 0)).run Tryd.prog w = .ok (.bool x.isNone) w := fun x n k w => Lib.run_eql_slice_nil w _ _ x n k 0 0 Tryd.underlying42
  go_enter Tryd.func33, Tryd.ntmps33
  go_wp2_with (at_builtin; refine wpList_append_run rfl _ _ _ rfl rfl rfl Hr ?_)
  go_ret
  exact ⟨_, rfl, ho.out, hk.out⟩

set_option maxRecDepth 100000 in
set_option maxHeartbeats 4000000 in
theorem pick_any (w : World) (a : Option Addr) (c : Nat) (m : Man) (hs : RfSrc w (.slice a m.bl.length c) m.bl) :
    Calls Tryd.prog 15 #[manV (.slice a m.bl.length c) m] w (PickP w (pickO m)) := by
  have HC := hid (check_any (w.alloc (manO a m.bl.length c m.next m.log m.low)) a c m (hs.stay ((Only.refl _ w).alloc _)))
  have HLE : Hid (chkO m = 0 → m.bl.length ≤ 200 ∧ ∀ x ∈ m.bl, 0 ≤ x.2.1 ∧ x.2.1 ≤ 20) := chk_zero
  obtain ⟨l, N, G, Lo⟩ := m
  obtain ⟨q, hq⟩ : ∃ q, chkO ⟨l, N, G, Lo⟩ = q := ⟨_, rfl⟩
  unfold pickO
  rw [hq] at HC HLE ⊢
  unfold manV at HC ⊢
  have HS := hid hs
  obtain ⟨L, hL⟩ : ∃ L, l.length = L := ⟨_, rfl⟩
  have HL := hid hL
  simp only at HS HC HLE ⊢
  rw [hL] at HS HC HLE ⊢
  clear hs hL hq
  have HK := hid (show Kept w (w.alloc (manO a L c N G Lo)) from (Only.refl _ w).alloc _)
  have HB := hid (Blk.new w [.slice a L c, .int .i64 N, .int .i64 G, .int .i64 Lo] 24)
  by_cases hz : q = 0
  · rw [if_pos hz]
    have HLE2 := hid (HLE.out hz)
    subst hz
    go_enter Tryd.func15, Tryd.ntmps15
    go_wp2_with fail
    refine HC.out.mono ?_
    rintro e w2 ⟨rfl, k2⟩
    have K2 := hid (HK.out.trans k2 (fun _ _ f => f))
    have hB2 := HB.out.of_block (k2.block w.heap.size (by simp) (fun f => f))
    have m0 := hB2.cell 0 rfl
    have hsz := hB2.lt
    clear HC k2 hB2 HB HK HLE
    go_wp2
    go_loopw [14] (fun s w' => ∃ (j : Nat), j ≤ L ∧ s = .int .i64 (j : Int) ∧ PkA w2.heap.size l j w' ∧ Kept w2 w') (fun s _ => L - (intOf s).toNat)
    case atStart => exact ⟨0, by omega, rfl, pka_start w2 l, (Only.refl _ w2).alloc _⟩
    case round =>
      obtain ⟨j, hj, rfl, hp, kr⟩ := hrel
      have HP := hid hp
      have KR := hid kr
      have hl200 := HLE2.out.1
      clear hp
      by_cases hjl : j < L
      · obtain ⟨b, o, rfl, c0, c1, c2, c3⟩ := (HS.out.stay (K2.out.trans KR.out (fun _ _ f => f))).cell HL.out j hjl
        have hkl : j < l.length := by have := HL.out; omega
        have hlv := HLE2.out.2 _ (List.getElem_mem hkl)
        obtain ⟨x, hx⟩ : ∃ x, l[j] = x := ⟨_, rfl⟩
        have HX := hid hx
        rw [hx] at c0 c1 c2 c3 hlv
        obtain ⟨i, lv, f, t⟩ := x
        simp only at hlv
        obtain ⟨n, rfl⟩ : ∃ n : Nat, lv = (n : Int) := ⟨lv.toNat, by omega⟩
        have hn : n < 21 := by omega
        have hni : (n : Int) < 21 := by omega
        clear hx hlv
        have hb : b < wr.heap.size := World.block_lt_of_cell? wr _ c0
        obtain ⟨w5, hw5⟩ : ∃ W, wr.alloc (rfO (i, (n : Int), f, t)) = W := ⟨_, rfl⟩
        have k5 : Kept wr w5 := by rw [← hw5]; exact (Only.refl _ wr).alloc _
        have hB5 : Blk w5 wr.heap.size [.int .i64 i, .int .i64 n, .int .i64 f, .int .i64 t] 54 := by rw [← hw5]; exact Blk.new wr [.int .i64 i, .int .i64 n, .int .i64 f, .int .i64 t] 54
        have k6 : Kept w5 w5.drew := (Only.refl _ w5).drew
        have hP6 : PkA w2.heap.size l j w5.drew := (HP.out.stay k5).stay k6
        have hA6 : w2.heap.size + 1 ≤ w5.drew.heap.size := by have := KR.out.size; have := hB5.lt; show _ ≤ w5.heap.size; omega
        obtain ⟨a4, c4, q4, hc4, g, cap, w1, Hr, hc1, hf1, hon, hpk⟩ := pka_step hP6 hkl hn (by rw [HX.out]) (by have := lvl_le (n : Int) (l.take j); rw [List.length_take] at this; omega) hA6
        rw [HX.out] at Hr
        have hXn : ¬ ((w2.heap.size + 1 ≤ wr.heap.size ∧ wr.heap.size < w5.drew.heap.size) ∧ Typed w5.drew wr.heap.size 3) := fun h => (Typed.ne (Blk.typed (Only.blk k6 hB5 (fun f => f))) h.2 (by decide)) rfl
        have x0 := hB5.cell 0 rfl
        have x1 := hB5.cell 1 rfl
        have X1 := hid (Only.blk hon (Only.blk k6 hB5 (fun f => f)) hXn)
        have HPK := hid hpk
        have HKW : Hid (Kept w2 (w1.setCell ⟨w2.heap.size, n, none⟩ (.slice (some ⟨g, 0, none⟩) (q4 + 1) cap))) := by
          have h1 : Kept w2 w5.drew := (KR.out.trans k5 (fun _ _ f => f)).trans k6 (fun _ _ f => f)
          exact hid ((h1.trans hon (fun k hk e => by have := e.1.1; omega)).setCell (p := ⟨w2.heap.size, n, none⟩) (fun h => by simp at h) _)
        clear hpk hon hP6 hA6 hXn hB5 k5 k6
        go_wp2_with fail
        refine wp_region_noPanic ?_
        refine wp_region_last (L := 11) (S := fun w' => w'.cell? ⟨wr.heap.size, 1, none⟩ = some (.int .i64 (n : Int)) ∧ w'.cell? ⟨wr.heap.size, 0, none⟩ = some (.int .i64 i) ∧ w'.cell? ⟨w2.heap.size, n, none⟩ = some (.slice a4 q4 c4)) (by kernel_rfl) ?_
        have hS : (fun w' : World => w'.cell? ⟨wr.heap.size, 1, none⟩ = some (.int .i64 (n : Int)) ∧ w'.cell? ⟨wr.heap.size, 0, none⟩ = some (.int .i64 i) ∧ w'.cell? ⟨w2.heap.size, n, none⟩ = some (.slice a4 q4 c4)) w5.drew := ⟨x1, x0, hc4⟩
        refine wpAnyL_take (i := 0) (v := .pointer (some ⟨wr.heap.size, 1, none⟩)) rfl (by kernel_rfl) (by kernel_rfl) (by kernel_rfl) (by kernel_rfl) (by kernel_rfl) (fun _ _ _ h => h) (Or.inl ⟨by rfl, ?_⟩) hS ?_
        · (intro w' hSw; obtain ⟨s1, s2, s3⟩ := hSw; go_simp)
        (try simp only [List.getElem_toArray, List.getElem_cons_succ, List.getElem_cons_zero])
        go_frame
        refine wpAnyL_take (i := 1) (v := .int .i64 (n : Int)) rfl (by kernel_rfl) (by kernel_rfl) (by kernel_rfl) (by kernel_rfl) (by kernel_rfl) (fun _ _ _ h => h) (Or.inl ⟨by rfl, ?_⟩) hS ?_
        · (intro w' hSw; obtain ⟨s1, s2, s3⟩ := hSw; go_simp)
        (try simp only [List.getElem_toArray, List.getElem_cons_succ, List.getElem_cons_zero])
        go_frame
        refine wpAnyL_take (i := 2) (v := .pointer (some ⟨wr.heap.size, 1, none⟩)) rfl (by kernel_rfl) (by kernel_rfl) (by kernel_rfl) (by kernel_rfl) (by kernel_rfl) (fun _ _ _ h => h) (Or.inl ⟨by rfl, ?_⟩) hS ?_
        · (intro w' hSw; obtain ⟨s1, s2, s3⟩ := hSw; go_simp)
        (try simp only [List.getElem_toArray, List.getElem_cons_succ, List.getElem_cons_zero])
        go_frame
        refine wpAnyL_take (i := 3) (v := .int .i64 (n : Int)) rfl (by kernel_rfl) (by kernel_rfl) (by kernel_rfl) (by kernel_rfl) (by kernel_rfl) (fun _ _ _ h => h) (Or.inl ⟨by rfl, ?_⟩) hS ?_
        · (intro w' hSw; obtain ⟨s1, s2, s3⟩ := hSw; go_simp)
        (try simp only [List.getElem_toArray, List.getElem_cons_succ, List.getElem_cons_zero])
        go_frame
        refine wpAnyL_take (i := 4) (v := .pointer (some ⟨w2.heap.size, n, none⟩)) rfl (by kernel_rfl) (by kernel_rfl) (by kernel_rfl) (by kernel_rfl) (by kernel_rfl) (fun _ _ _ h => h) (Or.inl ⟨by rfl, ?_⟩) hS ?_
        · (intro w' hSw; obtain ⟨s1, s2, s3⟩ := hSw; go_simp)
        (try simp only [List.getElem_toArray, List.getElem_cons_succ, List.getElem_cons_zero])
        go_frame
        refine wpAnyL_take (i := 5) (v := .slice a4 q4 c4) rfl (by kernel_rfl) (by kernel_rfl) (by kernel_rfl) (by kernel_rfl) (by kernel_rfl) (fun _ _ _ h => h) (Or.inl ⟨by rfl, ?_⟩) hS ?_
        · (intro w' hSw; obtain ⟨s1, s2, s3⟩ := hSw; go_simp)
        (try simp only [List.getElem_toArray, List.getElem_cons_succ, List.getElem_cons_zero])
        go_frame
        refine wpAnyL_take (i := 6) (v := .pointer (some ⟨wr.heap.size, 0, none⟩)) rfl (by kernel_rfl) (by kernel_rfl) (by kernel_rfl) (by kernel_rfl) (by kernel_rfl) (fun _ _ _ h => h) (Or.inl ⟨by rfl, ?_⟩) hS ?_
        · (intro w' hSw; obtain ⟨s1, s2, s3⟩ := hSw; go_simp)
        (try simp only [List.getElem_toArray, List.getElem_cons_succ, List.getElem_cons_zero])
        go_frame
        refine wpAnyL_take (i := 7) (v := .int .i64 i) rfl (by kernel_rfl) (by kernel_rfl) (by kernel_rfl) (by kernel_rfl) (by kernel_rfl) (fun _ _ _ h => h) (Or.inl ⟨by rfl, ?_⟩) hS ?_
        · (intro w' hSw; obtain ⟨s1, s2, s3⟩ := hSw; go_simp)
        (try simp only [List.getElem_toArray, List.getElem_cons_succ, List.getElem_cons_zero])
        go_frame
        refine wpAnyL_one (i := 8) (by kernel_rfl) rfl rfl ?_
        go_simp
        have kz : Kept w5 (w5.alloc (.cells #[.int .i64 i] 3)).drew := ((Only.refl _ w5).alloc _).drew
        refine ⟨⟨each_cell kz _ _ x1, each_cell kz _ _ x0, each_cell kz _ _ hc4⟩, ?_⟩
        have Hr2 : Hid ((Builtin.append_ #[42, 42] 0 #[.slice a4 q4 c4, .slice (some ⟨w5.heap.size, 0, none⟩) 1 1]).run Tryd.prog (w5.alloc (.cells #[.int .i64 i] 3)).drew = .ok (.slice (some ⟨g, 0, none⟩) (q4 + 1) cap) w1) := Hr
        have hS1 : w1.cell? ⟨wr.heap.size, 1, none⟩ = some (.int .i64 (n : Int)) ∧ w1.cell? ⟨wr.heap.size, 0, none⟩ = some (.int .i64 i) ∧ w1.cell? ⟨w2.heap.size, n, none⟩ = some (.slice a4 q4 c4) := ⟨X1.out.cell 1 rfl, X1.out.cell 0 rfl, hc1⟩
        have HS1 := hid hS1
        clear kz hS hS1 Hr x0 x1 hc4
        refine wpAnyL_one (i := 9) (by kernel_rfl) rfl rfl (oper_appendH _ _ _ rfl rfl rfl Hr2 ?_)
        refine ⟨HS1.out, ?_⟩
        (try simp only [List.getElem_toArray, List.getElem_cons_succ, List.getElem_cons_zero])
        go_frame
        refine wpAnyL_one (i := 10) (by kernel_rfl) rfl rfl ?_
        go_simp
        refine ⟨⟨HS1.out.1, HS1.out.2.1⟩, ?_⟩
        (try simp only [List.getElem_toArray, List.getElem_cons_succ, List.getElem_cons_zero])
        (try go_frame)
        refine wpAnyL_last (by kernel_rfl) (by kernel_rfl) rfl rfl ?_
        go_simp
        refine NoPanic.normal ?_
        go_wp2_with fail
        go_roundw
        case rel => exact ⟨j + 1, by omega, by go_num, HPK.out, HKW.out⟩
        case measure => simp [intOf]; omega
      · have hje : j = L := by omega
        subst hje
        obtain ⟨vs, hlen, hB, hrow, hap⟩ := HP.out
        rw [List.take_of_length_le (by have := HL.out; omega)] at hrow
        have HRW := hid hrow
        have hvs : vs.toArray.size = 21 := by simpa using hlen
        have HI : (Tryd.prog.info? 68).map (·.size) = some vs.toArray.size := by rw [hvs]; kernel_rfl
        have HLN := hid hlen
        have HG : wr.heap[w2.heap.size]? = some (.cells vs.toArray 68 (0, 0)) := hB
        have HIX := hid (idx_any vs)
        clear hrow hap hlen hvs hB
        go_wp2_with (refine wpList_load_row rfl 68 _ rfl w2.heap.size rfl 68 vs.toArray (0, 0) _ HG Tryd.underlying68 rfl HI ?_)
        clear HG HI m0
        obtain ⟨cs, hcs⟩ : ∃ cs, vs.toArray = cs := ⟨_, rfl⟩
        rw [hcs]
        have HCS := hid hcs
        clear hcs
        go_loop [31] (fun s => ∃ (n : Nat), n ≤ 21 ∧ s = .int .i64 (n : Int) ∧ pickL l n (21 - n) = pickL l 0 21) (fun s => 21 - (intOf s).toNat)
        case atStart => exact ⟨0, by omega, rfl, rfl⟩
        case round =>
          obtain ⟨n, hn, rfl, hr⟩ := hrel
          by_cases hlt : n < 21
          · obtain ⟨v, hv⟩ : ∃ v, vs[n]? = some v := ⟨_, List.getElem?_eq_getElem (by have := HLN.out; omega)⟩
            have hix := HIX.out n v hlt hv
            rw [HCS.out] at hix
            have ho := HRW.out n hlt
            rw [List.getD_eq_getElem?_getD, hv, Option.getD_some] at ho
            have HO := hid ho
            unfold IntAt at ho
            obtain ⟨a4, c4, rfl⟩ := own_slice ho
            obtain ⟨Q, hQ⟩ : ∃ Q, (lvl (n : Int) l).length = Q := ⟨_, rfl⟩
            have HQ := hid hQ
            rw [hQ] at hix ho
            by_cases h4 : 4 ≤ Q
            · obtain ⟨g, cap, e4⟩ := own_some ho (by omega)
              cases e4
              have hcap : Q ≤ c4 := by
                rcases ho.2 with ⟨e, _⟩ | ⟨g', cap', cur, hvv, _, _, hcc, _⟩
                · cases e
                · cases hvv
                  exact hcc
              have hcut := cut_to g Q c4 4 (by omega) (by omega)
              have hsrc : SrcOf wr (.slice (some ⟨g, 0, none⟩) ((lvl (n : Int) l).take 4).length c4) (((lvl (n : Int) l).take 4).map (Value.int .i64)) := by
                refine .inr ⟨⟨g, 0, none⟩, c4, by rw [List.length_map], fun i u hu => ?_⟩
                rw [add_none]
                refine src_cells (own_src ho) i u ?_
                rw [List.getElem?_map, List.getElem?_take] at hu
                split at hu
                · rw [List.getElem?_map]; exact hu
                · cases hu
              have hl4 : ((lvl (n : Int) l).take 4).length = 4 := by rw [List.length_take, hQ]; omega
              have HV : Hid (pickL l 0 21 = (lvl (n : Int) l).take 4) := by
                show _ = _
                rw [← hr, show 21 - n = (20 - n) + 1 by omega, pick_four l n _ hl4]
              have HCL := hid (iclone_some wr ⟨g, 0, none⟩ c4 _ hsrc (by rw [hl4]; decide))
              rw [hl4] at HCL
              clear hr hsrc hl4 hQ ho hv
              go_wp2_with fail
              refine HCL.out.mono ?_
              rintro e w7 ⟨v7, rfl, h7, k7⟩
              have H7 := hid h7
              have K7 := hid ((K2.out.trans KR.out (fun _ _ f => f)).trans k7 (fun _ _ f => f))
              have KS := hid (K2.out.trans KR.out (fun _ _ f => f)).size
              clear h7 k7 HCL
              go_wp2
              go_ret
              rw [HV.out]
              exact ⟨_, rfl, own_base H7.out KS.out, K7.out⟩
            · have HV : Hid (pickL l (n + 1) (21 - (n + 1)) = pickL l 0 21) := by
                show _ = _
                rw [← hr, show 21 - n = (21 - (n + 1)) + 1 by omega, pick_next l n _ (by rw [List.length_take, hQ]; omega)]
              clear hr hQ ho hv
              go_wp2
              go_round
              case rel => exact ⟨n + 1, by omega, by go_num, HV.out⟩
              case measure => simp [intOf]; omega
          · have e : n = 21 := by omega
            subst e
            have HV : Hid ([] = pickL l 0 21) := hr
            clear hr
            go_wp2
            go_ret
            rw [← HV.out]
            exact pick_nil (K2.out.trans KR.out (fun _ _ f => f))
  · rw [if_neg hz]
    go_enter Tryd.func15, Tryd.ntmps15
    go_wp2_with fail
    refine HC.out.mono ?_
    rintro e w2 ⟨rfl, k2⟩
    have K2 := hid (HK.out.trans k2 (fun _ _ f => f))
    clear HC k2 HB HK
    go_wp2
    go_ret
    exact pick_nil K2.out
end Go.Proofs.YtjifcgphlidimaaDoor.J
