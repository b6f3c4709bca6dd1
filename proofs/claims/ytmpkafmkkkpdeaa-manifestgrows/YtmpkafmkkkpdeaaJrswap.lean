/-
  The document's own Swap.
-/
import Derived.Test.YtmpkafmkkkpdeaaJradd
import Derived.BigQuiet
import Derived.Deep.QuietTactic
namespace Go.Proofs.Ytmpkafmkkkpdeaa.J
open Go.RowKit Go.Proofs.Lys
set_option linter.unusedVariables false
set_option linter.unusedSimpArgs false

def inB (l : List Rf) (k : Nat) (id : Int) : Bool := (l.take k).any (fun x => x.1 == id)
theorem inB_step {l : List Rf} {k : Nat} {id : Int} (hk : k < l.length) : inB l (k + 1) id = (inB l k id || l[k].1 == id) := by
  unfold inB
  rw [List.take_add_one, List.getElem?_eq_getElem hk, Option.toList_some, List.any_append]
  simp
theorem inB_all {l : List Rf} {k : Nat} {id : Int} (hk : l.length ≤ k) : inB l k id = true ↔ id ∈ l.map (·.1) := by
  unfold inB
  rw [List.take_of_length_le hk, List.any_eq_true, List.mem_map]
  constructor
  · rintro ⟨x, h1, h2⟩; exact ⟨x, h1, by simpa using h2⟩
  · rintro ⟨x, h1, h2⟩; exact ⟨x, h1, by simpa using h2⟩
def goneB (ids : List Int) (k : Nat) (id : Int) : Bool := (ids.take k).any (fun x => x == id)
theorem goneB_step {l : List Int} {k : Nat} {id : Int} (hk : k < l.length) : goneB l (k + 1) id = (goneB l k id || l[k] == id) := by
  unfold goneB
  rw [List.take_add_one, List.getElem?_eq_getElem hk, Option.toList_some, List.any_append]
  simp
theorem goneB_all {l : List Int} {k : Nat} {id : Int} (hk : l.length ≤ k) : goneB l k id = false ↔ l.count id = 0 := by
  unfold goneB
  rw [List.take_of_length_le hk, List.count_eq_zero]
  constructor
  · intro h hm
    have := List.any_eq_false.1 h id hm
    simp at this
  · intro h
    refine List.any_eq_false.2 (fun x hx => ?_)
    intro e
    have : x = id := by simpa using e
    exact h (this ▸ hx)
theorem nodup_step {ids : List Int} {j : Nat} (hj : j < ids.length) (h : (ids.take j).Nodup) (hn : ids[j] ∉ ids.take j) : (ids.take (j + 1)).Nodup := by
  rw [List.take_add_one, List.getElem?_eq_getElem hj, Option.toList_some, List.nodup_append]
  refine ⟨h, by simp, ?_⟩
  intro a ha b hb e
  have : b = ids[j] := by simpa using hb
  exact hn (by rw [← this, ← e]; exact ha)
theorem dup_ids {l : List Rf} {ids : List Int} (hne : ids ≠ []) (hall : ∀ i ∈ ids, i ∈ l.map (·.1)) {j k : Nat} (hk : k < j) (hj : j < ids.length) (h : ids[j] = ids[k]'(Nat.lt_trans hk hj)) : idsE l ids = 1 := by
  unfold idsE
  rw [if_neg (by intro H; rcases H with H | H; exact hne H; exact H hall), if_neg]
  intro H
  have := List.pairwise_iff_getElem.1 H k j (Nat.lt_trans hk hj) hj hk
  exact this h.symm
theorem ok_ids {l : List Rf} {ids : List Int} (hne : ids ≠ []) (hall : ∀ i ∈ ids, i ∈ l.map (·.1)) (h : ids.Nodup) : idsE l ids = 0 := by
  unfold idsE
  rw [if_neg (by intro H; rcases H with H | H; exact hne H; exact H hall), if_pos h]
theorem src_at {w : World} {b o n c : Nat} {ids : List Int} (h : SrcOf w (.slice (some ⟨b, o, none⟩) n c) (ids.map (Value.int .i64))) (j : Nat) (hj : j < ids.length) : w.cell? ⟨b, o + j, none⟩ = some (.int .i64 ids[j]) := int_cells h j hj
theorem src_some {w : World} {a : Option Addr} {M c : Nat} {ids : List Int} (h : SrcOf w (.slice a M c) (ids.map (Value.int .i64))) (hM : ids.length = M) (h0 : 0 < M) : ∃ b o, a = some ⟨b, o, none⟩ := by
  rcases h.shape with ⟨hnil, _⟩ | ⟨hpos, b, o, c', e, _⟩
  · rw [List.map_eq_nil_iff.1 hnil] at hM
    simp at hM
    omega
  · simp only [Value.slice.injEq] at e
    exact ⟨b, o, e.1⟩

theorem low_cell {nb : Nat} {w w' : World} (k : Only (fun q => nb < q) w w') {p : Addr} {u : Value} (hp : p.block ≤ nb) (hc : w.cell? p = some u) : w'.cell? p = some u := by
  rw [World.cell?_of_block (w := w) (w' := w') (a := p) (k.block p.block (World.block_lt_of_cell? w p hc) (by omega))]
  exact hc

set_option maxRecDepth 100000 in
set_option maxHeartbeats 6400000 in
theorem rswap_any (w : World) (a : Option Addr) (c : Nat) (m : Man) (v : Value) (ids : List Int) (lv f t : Int) (hs : RfSrc w (.slice a m.bl.length c) m.bl) (hi : SrcOf w v (ids.map (Value.int .i64))) (hm : ids.length ≤ 100000) :
    Calls Try.prog 10 #[manV (.slice a m.bl.length c) m, v, .int .i64 lv, .int .i64 f, .int .i64 t] w (TurnP w (swapQ m ids lv f t)) := by
  obtain ⟨R, hR⟩ : ∃ R, TurnP w (swapQ m ids lv f t) = R := ⟨_, rfl⟩
  rw [hR]
  have HRR := hid hR
  have HS := hid hs
  have HC : Hid (∀ W, Kept w W → Calls Try.prog 19 #[manV (.slice a m.bl.length c) m] W fun e w' => e = .returned (.int .i64 (chkO m)) ∧ Kept W w') := hid (fun W k => rcheck_any W a c m (HS.out.stay k))
  have HLE : Hid (chkO m = 0 → m.bl.length ≤ 200) := hid chk_len
  have HSB : Hid (∀ q, chkO m = q → q ≠ 0 → swapQ m ids lv f t = (manZ, 0, q)) := hid (fun q h hq => swap_bad h hq)
  have HSI : Hid (∀ x, chkO m = 0 → idsE m.bl ids = x → x ≠ 0 → swapQ m ids lv f t = (manZ, 0, x)) := hid (fun x h hx hq => swap_ids h hx hq)
  have HSY : Hid (chkO m = 0 → idsE m.bl ids = 0 → swapQ m ids lv f t = addQ ⟨keptL m.bl ids, m.next, m.log, m.low⟩ lv f t) := hid (fun h hx => by
    rw [swap_yes h hx]
    have := chk_kept ids h
    unfold addQ
    rw [if_pos (show chkO ⟨keptL m.bl ids, m.next, m.log, m.low⟩ = 0 from this)]
    rfl)
  generalize swapQ m ids lv f t = QQ at HRR HSB HSI HSY
  obtain ⟨q, hq⟩ : ∃ q, chkO m = q := ⟨_, rfl⟩
  rw [hq] at HLE HC HSB HSI HSY
  obtain ⟨l, N, G, Lo⟩ := m
  unfold manV at HC ⊢
  simp only at HC HLE HSI HSY HS ⊢
  obtain ⟨L, hLe⟩ : ∃ L, l.length = L := ⟨_, rfl⟩
  have HL := hid hLe
  rw [hLe] at HC HS HLE ⊢
  clear hs hR hLe hq
  obtain ⟨w2, hw2⟩ : ∃ W, (w.alloc (manO a L c N G Lo)).alloc (manO none 0 0 0 0 0) = W := ⟨_, rfl⟩
  have HK2 : Hid (Kept w w2) := by rw [← hw2]; exact hid (((Only.refl _ w).alloc _).alloc _)
  have HB2 : Hid (Blk w2 w.heap.size [.slice a L c, .int .i64 N, .int .i64 G, .int .i64 Lo] 24) := by
    rw [← hw2]
    exact (Blk.new w [.slice a L c, .int .i64 N, .int .i64 G, .int .i64 Lo] 24).alloc _
  have HZ2 : Hid (Blk w2 (w.heap.size + 1) [.slice none 0 0, .int .i64 0, .int .i64 0, .int .i64 0] 24) := by
    rw [← hw2]
    have := Blk.new (w.alloc (manO a L c N G Lo)) [.slice none 0 0, .int .i64 0, .int .i64 0, .int .i64 0] 24
    rw [World.size_alloc] at this
    exact hid this
  have HW2 := hid hw2
  obtain ⟨a2, c2, rfl⟩ := hi.len
  obtain ⟨M, hM⟩ : ∃ M, (ids.map (Value.int .i64)).length = M := ⟨_, rfl⟩
  have HI := hid hi
  rw [hM] at HI ⊢
  rw [List.length_map] at hM
  have HM := hid hM
  rw [hM] at hm
  clear hw2 hi hM
  go_enter Try.func10, Try.ntmps10
  go_wp2_with fail
  rw [HW2.out]
  refine (HC.out w2 HK2.out).mono ?_
  rintro e w3 ⟨rfl, k3⟩
  have K3 := hid (HK2.out.trans k3 (fun _ _ f => f))
  have HB3 := hid (Only.blk k3 HB2.out (fun f => f))
  have HZ3 := hid (Only.blk k3 HZ2.out (fun f => f))
  have HBAD : Hid (∀ x w', Kept w w' → QQ = (manZ, 0, x) → Blk w' (w.heap.size + 1) [.slice none 0 0, .int .i64 0, .int .i64 0, .int .i64 0] 24 →
      R (.returned (.tuple #[.agg #[.slice none 0 0, .int .i64 0, .int .i64 0, .int .i64 0], .int .i64 0, .int .i64 x])) ((((w'.setCell ⟨w.heap.size + 1, 0, none⟩ (.slice none 0 0)).setCell ⟨w.heap.size + 1, 1, none⟩ (.int .i64 0)).setCell ⟨w.heap.size + 1, 2, none⟩ (.int .i64 0)).setCell ⟨w.heap.size + 1, 3, none⟩ (.int .i64 0)) ∧
      Blk ((((w'.setCell ⟨w.heap.size + 1, 0, none⟩ (.slice none 0 0)).setCell ⟨w.heap.size + 1, 1, none⟩ (.int .i64 0)).setCell ⟨w.heap.size + 1, 2, none⟩ (.int .i64 0)).setCell ⟨w.heap.size + 1, 3, none⟩ (.int .i64 0)) (w.heap.size + 1) [.slice none 0 0, .int .i64 0, .int .i64 0, .int .i64 0] 24) := hid (fun x w' k hQ hZ => by
    refine ⟨?_, (((hZ.set 0 (.slice none 0 0)).set 1 (.int .i64 0)).set 2 (.int .i64 0)).set 3 (.int .i64 0)⟩
    rw [← HRR.out, hQ]
    exact turn_nil (set4 _ _ _ _ _ _ k (Nat.le_add_right _ 1)))
  have hlt7 := HB3.out.lt
  have hlt8 := HZ3.out.lt
  clear k3 HC HW2 HK2 HB2 HZ2
  by_cases hz : q = 0
  · subst hz
    have HLE0 := hid (HLE.out rfl)
    have hL2 := HLE0.out
    have HSI0 : Hid (∀ x, idsE l ids = x → x ≠ 0 → QQ = (manZ, 0, x)) := hid (fun x hx h => HSI.out x rfl hx h)
    have HSY0 : Hid (idsE l ids = 0 → QQ = addQ ⟨keptL l ids, N, G, Lo⟩ lv f t) := hid (fun h => HSY.out rfl h)
    clear HSB HLE HSI HSY
    by_cases hM0 : M = 0
    · have hid0 : ids = [] := List.length_eq_zero_iff.1 (by rw [HM.out]; exact hM0)
      have HF := hid (HBAD.out 6 w3 K3.out (HSI0.out 6 (by rw [hid0]; exact ids_nil) (by decide)) HZ3.out)
      have hZ3 := HZ3.out
      have z0 := hZ3.cell 0 rfl
      have z1 := hZ3.cell 1 rfl
      have z2 := hZ3.cell 2 rfl
      have z3 := hZ3.cell 3 rfl
      have g0 := hZ3.frozen 0
      have g1 := hZ3.frozen 1
      have g2 := hZ3.frozen 2
      have g3 := hZ3.frozen 3
      subst hM0
      clear hZ3 hid0
      go_wp2
      exact ret_man rfl rfl HF.out.2 HF.out.1 rfl rfl
    · have hMb : ((M : Int) == 0) = false := by simpa using hM0
      have HNE : Hid (ids ≠ []) := hid (fun e => hM0 (by rw [← HM.out, e]; rfl))
      obtain ⟨b2, o2, rfl⟩ := src_some HI.out HM.out (by omega)
      go_wp2
      go_loopw [14] (fun s w' => ∃ (j : Nat), j ≤ M ∧ s = .int .i64 (j : Int) ∧ Hid (∀ i ∈ ids.take j, i ∈ l.map (·.1)) ∧ Kept w3 w') (fun s _ => M - (intOf s).toNat)
      case atStart => exact ⟨0, by omega, rfl, hid (by intro i hi; simp at hi), Only.refl _ _⟩
      case round =>
        obtain ⟨j, hj, rfl, HA, kr⟩ := hrel
        have KR := hid kr
        by_cases hlt : j < M
        · have hjl : j < ids.length := by have := HM.out; omega
          obtain ⟨id, hid0⟩ : ∃ id, ids[j] = id := ⟨_, rfl⟩
          have HID := hid hid0
          clear hid0 kr
          go_wp2
          go_loopw [15, 16] (fun s t w' => ∃ (k : Nat), k ≤ L ∧ s = .bool (inB l k id) ∧ t = .int .i64 (k : Int) ∧ Kept w3 w') (fun _ t _ => L - (intOf t).toNat)
          case atStart => exact ⟨0, by omega, by unfold inB; rw [List.take_zero]; rfl, rfl, KR.out⟩
          case round =>
            obtain ⟨k, hk, rfl, rfl, kr⟩ := hrel
            have KK := hid kr
            have hB := Only.blk kr HB3.out (fun f => f)
            have m0 := hB.cell 0 rfl
            have hltb := hB.lt
            clear hB
            by_cases hkl : k < L
            · have hkl2 : k < l.length := by have := HL.out; omega
              obtain ⟨b, o, e0, p0, _⟩ := (HS.out.stay (K3.out.trans kr (fun _ _ f => f))).cell HL.out k hkl
              subst e0
              obtain ⟨x, hx⟩ : ∃ x, (l[k]).1 = x := ⟨_, rfl⟩
              rw [hx] at p0
              have HST : Hid (inB l (k + 1) id = (inB l k id || x == id)) := hid (by rw [inB_step hkl2, hx])
              have y0 : wr.cell? ⟨b2, o2 + j, none⟩ = some (.int .i64 id) := by rw [← HID.out]; exact src_at (HI.out.stay (K3.out.trans kr (fun _ _ f => f))) j hjl
              have hb : b < wr.heap.size := World.block_lt_of_cell? wr _ p0
              have hb2 : b2 < wr.heap.size := World.block_lt_of_cell? wr _ y0
              clear hx kr
              cases hq : inB l k id with
              | true =>
                have HV : Hid (inB l (k + 1) id = true) := hid (by rw [HST.out, hq]; rfl)
                clear hq HST p0 y0
                go_wp2_with fail
                go_quiet (fail)
                go_wp2_with fail
                go_roundw
                case rel => exact ⟨k + 1, by omega, by rw [HV.out], by go_num, kept_drewN KK.out nq⟩
                case measure => simp [intOf]; omega
              | false =>
                by_cases hxe : x = id
                · have HV : Hid (inB l (k + 1) id = true) := hid (by rw [HST.out, hq, hxe]; simp)
                  have hxb : (x == id) = true := by simpa using hxe
                  clear hq HST hxe
                  go_wp2_with fail
                  go_quiet (fail)
                  go_wp2_with fail
                  go_roundw
                  case rel => exact ⟨k + 1, by omega, by rw [HV.out], by go_num, kept_drewN KK.out nq⟩
                  case measure => simp [intOf]; omega
                · have HV : Hid (inB l (k + 1) id = false) := hid (by rw [HST.out, hq]; simpa using hxe)
                  have hxb : (x == id) = false := by simpa using hxe
                  clear hq HST hxe
                  go_wp2_with fail
                  go_quiet (fail)
                  go_wp2_with fail
                  go_roundw
                  case rel => exact ⟨k + 1, by omega, by rw [HV.out], by go_num, kept_drewN KK.out nq⟩
                  case measure => simp [intOf]; omega
            · have hke : k = L := by omega
              subst hke
              cases hq : inB l k id with
              | true =>
                have HIN : Hid (id ∈ l.map (·.1)) := hid ((inB_all (by have := HL.out; omega)).1 hq)
                have HA2 : Hid (∀ i ∈ ids.take (j + 1), i ∈ l.map (·.1)) := hid (fun i hi => by
                  rw [List.take_add_one, List.getElem?_eq_getElem hjl, Option.toList_some] at hi
                  rcases List.mem_append.1 hi with hi | hi
                  · exact HA.out i hi
                  · have : i = ids[j] := by simpa using hi
                    rw [this, HID.out]
                    exact HIN.out)
                clear hq HA
                go_wp2
                go_roundw
                case rel => exact ⟨j + 1, by omega, by go_num, HA2.out, KK.out⟩
                case measure => simp [intOf]; omega
              | false =>
                have hno : id ∉ l.map (·.1) := fun h => by rw [(inB_all (by have := HL.out; omega)).2 h] at hq; cases hq
                have hZ3 := Only.blk kr HZ3.out (fun f => f)
                have HF := hid (HBAD.out 6 wr (K3.out.trans kr (fun _ _ f => f)) (HSI0.out 6 (ids_lost (i := id) (by rw [← HID.out]; exact List.getElem_mem hjl) hno) (by decide)) hZ3)
                have hltz := hZ3.lt
                have z0 := hZ3.cell 0 rfl
                have z1 := hZ3.cell 1 rfl
                have z2 := hZ3.cell 2 rfl
                have z3 := hZ3.cell 3 rfl
                have g0 := hZ3.frozen 0
                have g1 := hZ3.frozen 1
                have g2 := hZ3.frozen 2
                have g3 := hZ3.frozen 3
                clear hq hno hZ3 kr
                go_wp2
                exact ret_man rfl rfl HF.out.2 HF.out.1 rfl rfl
        · have hje : j = M := by omega
          subst hje
          rw [List.take_of_length_le (by have := HM.out; omega)] at HA
          clear kr
          go_wp2
          go_loopw [17] (fun s w' => ∃ (i : Nat), i ≤ j ∧ s = .int .i64 (i : Int) ∧ Hid ((ids.take i).Nodup) ∧ Kept w3 w') (fun s _ => j - (intOf s).toNat)
          case atStart => exact ⟨0, by omega, rfl, hid (by simp), KR.out⟩
          case round =>
            obtain ⟨i, hij, rfl, HD, kr⟩ := hrel
            have KR := hid kr
            by_cases hlt : i < j
            · have hil : i < ids.length := by have := HM.out; omega
              clear kr
              go_wp2
              go_loopw [18] (fun s w' => ∃ (k : Nat), k ≤ i ∧ s = .int .i64 (k : Int) ∧ Hid (∀ (h : i < ids.length), ids[i] ∉ ids.take k) ∧ Kept w3 w') (fun s _ => i - (intOf s).toNat)
              case atStart => exact ⟨0, by omega, rfl, hid (by intro h; simp), KR.out⟩
              case round =>
                obtain ⟨k, hk, rfl, HN, kr⟩ := hrel
                have KK := hid kr
                by_cases hki : k < i
                · have hkl : k < ids.length := by omega
                  obtain ⟨x, hx⟩ : ∃ x, ids[i] = x := ⟨_, rfl⟩
                  obtain ⟨y, hy⟩ : ∃ y, ids[k] = y := ⟨_, rfl⟩
                  have HSR := HI.out.stay (K3.out.trans kr (fun _ _ f => f))
                  have x0 : wr.cell? ⟨b2, o2 + i, none⟩ = some (.int .i64 x) := by rw [← hx]; exact src_at HSR i hil
                  have y0 : wr.cell? ⟨b2, o2 + k, none⟩ = some (.int .i64 y) := by rw [← hy]; exact src_at HSR k hkl
                  have HX := hid hx
                  have HY := hid hy
                  have hb2 : b2 < wr.heap.size := World.block_lt_of_cell? wr _ y0
                  clear HSR hx hy
                  by_cases hxy : x = y
                  · have hZ3 := Only.blk kr HZ3.out (fun f => f)
                    have hxb : (x == y) = true := by simpa using hxy
                    have HF : Hid (∀ nq, R (.returned (.tuple #[.agg #[.slice none 0 0, .int .i64 0, .int .i64 0, .int .i64 0], .int .i64 0, .int .i64 1])) (((((wr.drewN nq).setCell ⟨w.heap.size + 1, 0, none⟩ (.slice none 0 0)).setCell ⟨w.heap.size + 1, 1, none⟩ (.int .i64 0)).setCell ⟨w.heap.size + 1, 2, none⟩ (.int .i64 0)).setCell ⟨w.heap.size + 1, 3, none⟩ (.int .i64 0)) ∧
                        Blk (((((wr.drewN nq).setCell ⟨w.heap.size + 1, 0, none⟩ (.slice none 0 0)).setCell ⟨w.heap.size + 1, 1, none⟩ (.int .i64 0)).setCell ⟨w.heap.size + 1, 2, none⟩ (.int .i64 0)).setCell ⟨w.heap.size + 1, 3, none⟩ (.int .i64 0)) (w.heap.size + 1) [.slice none 0 0, .int .i64 0, .int .i64 0, .int .i64 0] 24) := hid (fun nq => HBAD.out 1 (wr.drewN nq) (kept_drewN (K3.out.trans KK.out (fun _ _ f => f)) nq) (HSI0.out 1 (dup_ids HNE.out HA.out hki hil (by rw [HX.out, HY.out, hxy])) (by decide)) (Only.blk (kept_drewN (Only.refl _ wr) nq) hZ3 (fun f => f)))
                    have HZ := hid hZ3
                    clear hZ3 kr hxy
                    go_wp2_with fail
                    go_quiet (fail)
                    have HF2 := hid (HF.out nq)
                    have hZ4 := Only.blk (kept_drewN (Only.refl _ wr) nq) HZ.out (fun f => f)
                    generalize wr.drewN nq = wq at HF2 hZ4 ⊢
                    have hltz := hZ4.lt
                    have z0 := hZ4.cell 0 rfl
                    have z1 := hZ4.cell 1 rfl
                    have z2 := hZ4.cell 2 rfl
                    have z3 := hZ4.cell 3 rfl
                    have g0 := hZ4.frozen 0
                    have g1 := hZ4.frozen 1
                    have g2 := hZ4.frozen 2
                    have g3 := hZ4.frozen 3
                    clear hZ4 HF
                    go_wp2
                    exact ret_man rfl rfl HF2.out.2 HF2.out.1 rfl rfl
                  · have hxb : (x == y) = false := by simpa using hxy
                    have HN2 : Hid (∀ (h : i < ids.length), ids[i] ∉ ids.take (k + 1)) := hid (fun h hm => by
                      rw [List.take_add_one, List.getElem?_eq_getElem hkl, Option.toList_some] at hm
                      rcases List.mem_append.1 hm with hm | hm
                      · exact HN.out h hm
                      · have : ids[i] = ids[k] := by simpa using hm
                        rw [HX.out, HY.out] at this
                        exact hxy this)
                    clear hxy kr
                    go_wp2_with fail
                    go_quiet (fail)
                    go_wp2_with fail
                    go_roundw
                    case rel => exact ⟨k + 1, by omega, by go_num, HN2.out, kept_drewN KK.out nq⟩
                    case measure => simp [intOf]; omega
                · have hke : k = i := by omega
                  subst hke
                  have HD2 : Hid ((ids.take (k + 1)).Nodup) := hid (nodup_step hil HD.out (HN.out hil))
                  clear HD
                  go_wp2
                  go_roundw
                  case rel => exact ⟨k + 1, by omega, by go_num, HD2.out, KK.out⟩
                  case measure => simp [intOf]; omega
            · have hie : i = j := by omega
              subst hie
              rw [List.take_of_length_le (by have := HM.out; omega)] at HD
              have HQY : Hid (QQ = addQ ⟨keptL l ids, N, G, Lo⟩ lv f t) := hid (HSY0.out (ok_ids HNE.out HA.out HD.out))
              have hB := Only.blk kr HB3.out (fun f => f)
              have m0 := hB.cell 0 rfl
              have m1 := hB.cell 1 rfl
              have m2 := hB.cell 2 rfl
              have m3 := hB.cell 3 rfl
              have hltb := hB.lt
              obtain ⟨nb, hnb⟩ : ∃ nb, wr.heap.size = nb := ⟨_, rfl⟩
              have HNB := hid hnb
              have HW3 := hid (show w.heap.size + 1 < nb by rw [← hnb]; exact Nat.lt_of_lt_of_le HZ3.out.lt kr.size)
              have hNW3 : Hid (w3.heap.size ≤ nb) := hid (by rw [← hnb]; exact kr.size)
              clear hB kr HSY0 HSI0 hnb
              go_wp2_with fail
              have hNB := Blk.new wr [.slice none 0 0, .int .i64 N, .int .i64 G, .int .i64 Lo] 24
              have hKB : Kept w3 (wr.alloc (manO none 0 0 N G Lo)) := KR.out.alloc _
              rw [HNB.out] at hNB ⊢
              go_loopw [20] (fun s w' => ∃ (k : Nat) (v4 : Value), k ≤ L ∧ s = .int .i64 (k : Int) ∧ Blk w' nb [v4, .int .i64 N, .int .i64 G, .int .i64 Lo] 24 ∧ RfAt w' (nb + 1) v4 (keptL (l.take k) ids) ∧ Kept w3 w') (fun s _ => L - (intOf s).toNat)
              case atStart => exact ⟨0, .slice none 0 0, by omega, rfl, hNB, ⟨rfl, .inl ⟨rfl, rfl⟩⟩, hKB⟩
              case round =>
                clear hNB hKB m0 m1 m2 m3 hltb
                obtain ⟨k, v4, hk, rfl, hN4, h4, kr⟩ := hrel
                have hq4 := kept_len l ids k
                obtain ⟨Q, hQ⟩ : ∃ Q, (keptL (l.take k) ids).length = Q := ⟨_, rfl⟩
                have HQ := hid hQ
                unfold RfAt at h4
                rw [hQ] at h4 hq4
                obtain ⟨a4, c4, rfl⟩ := ownN_slice h4
                have HN4 := hid hN4
                have H4 := hid h4
                have KR := hid kr
                have hB := Only.blk kr HB3.out (fun f => f)
                have m0 := hB.cell 0 rfl
                have hltb := hB.lt
                have n0 := hN4.cell 0 rfl
                have n1 := hN4.cell 1 rfl
                have n2 := hN4.cell 2 rfl
                have n3 := hN4.cell 3 rfl
                have hltn := hN4.lt
                clear hB hQ
                by_cases hkl : k < L
                · have hkl2 : k < l.length := by have := HL.out; omega
                  obtain ⟨x, hx⟩ : ∃ x, l[k] = x := ⟨_, rfl⟩
                  have HX := hid hx
                  clear hx hN4 h4 kr n0 n1 n2 n3
                  go_wp2
                  go_loopw [21, 22] (fun s t w' => ∃ (e : Nat), e ≤ i ∧ s = .bool (goneB ids e x.1) ∧ t = .int .i64 (e : Int) ∧ Blk w' nb [.slice a4 Q c4, .int .i64 N, .int .i64 G, .int .i64 Lo] 24 ∧ w'.ownsRow (nb + 1) 28 4 (.slice a4 Q c4) Q (rfL (keptL (l.take k) ids)) ∧ Kept w3 w') (fun _ t _ => i - (intOf t).toNat)
                  case atStart => exact ⟨0, by omega, by unfold goneB; rw [List.take_zero]; rfl, rfl, HN4.out, H4.out, KR.out⟩
                  case round =>
                    clear m0 hltb hltn
                    obtain ⟨e, he, rfl, rfl, hN5, h5, kr⟩ := hrel
                    have HN5 := hid hN5
                    have H5 := hid h5
                    have KE := hid kr
                    have hB := Only.blk kr HB3.out (fun f => f)
                    have m0 := hB.cell 0 rfl
                    have hltb := hB.lt
                    have hltn := hN5.lt
                    obtain ⟨b, o, e0, p0, p1, p2, p3⟩ := (HS.out.stay (K3.out.trans kr (fun _ _ f => f))).cell HL.out k hkl
                    subst e0
                    have hbw : Hid (b < w.heap.size) := hid (by
                      obtain ⟨b', o', e', q0, _⟩ := HS.out.cell HL.out k hkl
                      cases e'
                      exact World.block_lt_of_cell? w _ q0)
                    rw [HX.out] at p0 p1 p2 p3
                    have hb : b < wr.heap.size := World.block_lt_of_cell? wr _ p0
                    clear hB hN5 h5
                    by_cases hei : e < i
                    · have hel : e < ids.length := by have := HM.out; omega
                      obtain ⟨y, hy⟩ : ∃ y, ids[e] = y := ⟨_, rfl⟩
                      have y0 : wr.cell? ⟨b2, o2 + e, none⟩ = some (.int .i64 y) := by rw [← hy]; exact src_at (HI.out.stay (K3.out.trans kr (fun _ _ f => f))) e hel
                      have hb2 : b2 < wr.heap.size := World.block_lt_of_cell? wr _ y0
                      have HST : Hid (goneB ids (e + 1) x.1 = (goneB ids e x.1 || y == x.1)) := hid (by rw [goneB_step hel, hy])
                      obtain ⟨x1, x2, x3, x4⟩ := x
                      simp only at p0 p1 p2 p3 HST
                      clear hy kr
                      cases hq : goneB ids e x1 with
                      | true =>
                        have HV : Hid (goneB ids (e + 1) x1 = true) := hid (by rw [HST.out, hq]; rfl)
                        clear hq HST p0 p1 p2 p3 y0
                        go_wp2_with fail
                        go_quiet (fail)
                        go_wp2_with fail
                        go_roundw
                        case rel => exact ⟨e + 1, by omega, by rw [HV.out], by go_num, Only.blk (kept_drewN (Only.refl _ wr) nq) HN5.out (fun f => f), ownN_stay H5.out (kept_drewN (Only.refl _ wr) nq), kept_drewN KE.out nq⟩
                        case measure => simp [intOf]; omega
                      | false =>
                        by_cases hxe : y = x1
                        · have HV : Hid (goneB ids (e + 1) x1 = true) := hid (by rw [HST.out, hq, hxe]; simp)
                          have hxb : (y == x1) = true := by simpa using hxe
                          clear hq HST hxe p1 p2 p3
                          go_wp2_with fail
                          go_quiet (fail)
                          go_wp2_with fail
                          go_roundw
                          case rel => exact ⟨e + 1, by omega, by rw [HV.out], by go_num, Only.blk (kept_drewN (Only.refl _ wr) nq) HN5.out (fun f => f), ownN_stay H5.out (kept_drewN (Only.refl _ wr) nq), kept_drewN KE.out nq⟩
                          case measure => simp [intOf]; omega
                        · have HV : Hid (goneB ids (e + 1) x1 = false) := hid (by rw [HST.out, hq]; simpa using hxe)
                          have hxb : (y == x1) = false := by simpa using hxe
                          clear hq HST hxe p1 p2 p3
                          go_wp2_with fail
                          go_quiet (fail)
                          go_wp2_with fail
                          go_roundw
                          case rel => exact ⟨e + 1, by omega, by rw [HV.out], by go_num, Only.blk (kept_drewN (Only.refl _ wr) nq) HN5.out (fun f => f), ownN_stay H5.out (kept_drewN (Only.refl _ wr) nq), kept_drewN KE.out nq⟩
                          case measure => simp [intOf]; omega
                    · have hee : e = i := by omega
                      subst hee
                      cases hq : goneB ids e x.1 with
                      | true =>
                        have HKS : Hid (keptL (l.take (k + 1)) ids = keptL (l.take k) ids) := hid (by
                          rw [kept_step l ids k hkl2, HX.out, if_neg, List.append_nil]
                          intro h0
                          rw [(goneB_all (by have := HM.out; omega)).2 h0] at hq
                          cases hq)
                        clear hq p0 p1 p2 p3 kr
                        go_wp2
                        go_roundw
                        case rel => exact ⟨k + 1, _, by omega, by go_num, HN5.out, by rw [HKS.out, RfAt, HQ.out]; exact H5.out, KE.out⟩
                        case measure => simp [intOf]; omega
                      | false =>
                        have HKS : Hid (keptL (l.take (k + 1)) ids = keptL (l.take k) ids ++ [x]) := hid (by rw [kept_step l ids k hkl2, HX.out, if_pos ((goneB_all (by have := HM.out; omega)).1 hq)])
                        obtain ⟨x1, x2, x3, x4⟩ := x
                        simp only at p0 p1 p2 p3
                        have kd : Kept wr wr.drew := (Only.refl _ wr).drew
                        have hRd : RfAt wr.drew (nb + 1) (.slice a4 Q c4) (keptL (l.take k) ids) := by unfold RfAt; rw [HQ.out]; exact ownN_stay H5.out kd
                        have hB2 : nb + 1 ≤ wr.drew.heap.size := hltn
                        obtain ⟨g, cap, w1, Hr0, hR1, hon⟩ := rf_one hRd hB2 (x1, x2, x3, x4) (by have := HL.out; rw [HQ.out]; omega)
                        rw [HQ.out] at Hr0 hR1
                        have Hr : Hid ((Builtin.append_ #[22, 22] 0 #[.slice a4 Q c4, .slice (some ⟨wr.heap.size, 0, none⟩) 1 1]).run Try.prog (wr.alloc (rfO (x1, x2, x3, x4))).drew = .ok (.slice (some ⟨g, 0, none⟩) (Q + 1) cap) w1) := Hr0
                        have HON : Hid (Only (fun q => nb < q) wr w1) := hid (((Only.refl (fun q => nb < q) wr).drew).trans hon (fun q _ e => by have := (ownN_lt hRd e).1; omega))
                        have hN6 := Only.blk HON.out HN5.out (by omega)
                        have n6 := hN6.cell 0 rfl
                        have nf6 := hN6.frozen 0
                        have hlt6 := hN6.lt
                        have HN8 := hid (hN6.set 0 (.slice (some ⟨g, 0, none⟩) (Q + 1) cap))
                        have H8 : Hid (RfAt (w1.setCell ⟨nb, 0, none⟩ (.slice (some ⟨g, 0, none⟩) (Q + 1) cap)) (nb + 1) (.slice (some ⟨g, 0, none⟩) (Q + 1) cap) (keptL (l.take (k + 1)) ids)) := hid (by
                          rw [HKS.out]
                          exact ownN_block hR1 (fun q hq => Below.heap_setCell w1 _ _ q (fun e => by have := (ownN_lt hR1 hq).1; simp at e; omega)))
                        have K8 : Hid (Kept w3 (w1.setCell ⟨nb, 0, none⟩ (.slice (some ⟨g, 0, none⟩) (Q + 1) cap))) := hid (((KE.out.trans HON.out (fun q hq e => by have := K3.out.size; have := hNW3.out; omega)).setCell (fun h => by have := hNW3.out; simp at h; omega) _))
                        have hS : Only (fun q => nb < q) wr wr.drew := (Only.refl _ wr).drew
                        have C0 := hid (HN5.out.cell 0 rfl)
                        have C1 := hid m0
                        have P0 := hid p0
                        have P1 := hid p1
                        have P2 := hid p2
                        have P3 := hid p3
                        have HBN : Hid (b ≤ nb) := hid (by have := hbw.out; have := HW3.out; omega)
                        clear hq kr hRd hB2 hR1 hon Hr0 kd hN6 p0 p1 p2 p3 m0
                        go_wp2_with fail
                        refine wp_region_noPanic ?_
                        refine wp_region_last (L := 10) (S := fun w' => Only (fun q => nb < q) wr w') (by kernel_rfl) ?_
                        refine wpAnyL_take (i := 0) (v := .pointer (some ⟨nb, 0, none⟩)) rfl (by kernel_rfl) (by kernel_rfl) (by kernel_rfl) (by kernel_rfl) (by kernel_rfl) (fun _ _ _ h => h) (Or.inl ⟨by kernel_rfl, ?_⟩) hS ?_
                        · (intro w' hSw; have s0 := low_cell hSw (Nat.le_refl _) C0.out; have s1 := low_cell hSw (p := ⟨w.heap.size, 0, none⟩) (by have := HW3.out; simp; omega) C1.out; have t0 := low_cell hSw (p := ⟨b, o + k * 4, none⟩) HBN.out P0.out; have t1 := low_cell hSw (p := ⟨b, o + k * 4 + 1, none⟩) HBN.out P1.out; have t2 := low_cell hSw (p := ⟨b, o + k * 4 + 2, none⟩) HBN.out P2.out; have t3 := low_cell hSw (p := ⟨b, o + k * 4 + 3, none⟩) HBN.out P3.out; clear hSw; go_simp)
                        (try simp only [List.getElem_toArray, List.getElem_cons_succ, List.getElem_cons_zero])
                        go_frame
                        refine wpAnyL_take (i := 1) (v := .slice a4 Q c4) rfl (by kernel_rfl) (by kernel_rfl) (by kernel_rfl) (by kernel_rfl) (by kernel_rfl) (fun _ _ _ h => h) (Or.inl ⟨by kernel_rfl, ?_⟩) hS ?_
                        · (intro w' hSw; have s0 := low_cell hSw (Nat.le_refl _) C0.out; have s1 := low_cell hSw (p := ⟨w.heap.size, 0, none⟩) (by have := HW3.out; simp; omega) C1.out; have t0 := low_cell hSw (p := ⟨b, o + k * 4, none⟩) HBN.out P0.out; have t1 := low_cell hSw (p := ⟨b, o + k * 4 + 1, none⟩) HBN.out P1.out; have t2 := low_cell hSw (p := ⟨b, o + k * 4 + 2, none⟩) HBN.out P2.out; have t3 := low_cell hSw (p := ⟨b, o + k * 4 + 3, none⟩) HBN.out P3.out; clear hSw; go_simp)
                        (try simp only [List.getElem_toArray, List.getElem_cons_succ, List.getElem_cons_zero])
                        go_frame
                        refine wpAnyL_take (i := 2) (v := .pointer (some ⟨w.heap.size, 0, none⟩)) rfl (by kernel_rfl) (by kernel_rfl) (by kernel_rfl) (by kernel_rfl) (by kernel_rfl) (fun _ _ _ h => h) (Or.inl ⟨by kernel_rfl, ?_⟩) hS ?_
                        · (intro w' hSw; have s0 := low_cell hSw (Nat.le_refl _) C0.out; have s1 := low_cell hSw (p := ⟨w.heap.size, 0, none⟩) (by have := HW3.out; simp; omega) C1.out; have t0 := low_cell hSw (p := ⟨b, o + k * 4, none⟩) HBN.out P0.out; have t1 := low_cell hSw (p := ⟨b, o + k * 4 + 1, none⟩) HBN.out P1.out; have t2 := low_cell hSw (p := ⟨b, o + k * 4 + 2, none⟩) HBN.out P2.out; have t3 := low_cell hSw (p := ⟨b, o + k * 4 + 3, none⟩) HBN.out P3.out; clear hSw; go_simp)
                        (try simp only [List.getElem_toArray, List.getElem_cons_succ, List.getElem_cons_zero])
                        go_frame
                        refine wpAnyL_take (i := 3) (v := .slice (some ⟨b, o, none⟩) L c) rfl (by kernel_rfl) (by kernel_rfl) (by kernel_rfl) (by kernel_rfl) (by kernel_rfl) (fun _ _ _ h => h) (Or.inl ⟨by kernel_rfl, ?_⟩) hS ?_
                        · (intro w' hSw; have s0 := low_cell hSw (Nat.le_refl _) C0.out; have s1 := low_cell hSw (p := ⟨w.heap.size, 0, none⟩) (by have := HW3.out; simp; omega) C1.out; have t0 := low_cell hSw (p := ⟨b, o + k * 4, none⟩) HBN.out P0.out; have t1 := low_cell hSw (p := ⟨b, o + k * 4 + 1, none⟩) HBN.out P1.out; have t2 := low_cell hSw (p := ⟨b, o + k * 4 + 2, none⟩) HBN.out P2.out; have t3 := low_cell hSw (p := ⟨b, o + k * 4 + 3, none⟩) HBN.out P3.out; clear hSw; go_simp)
                        (try simp only [List.getElem_toArray, List.getElem_cons_succ, List.getElem_cons_zero])
                        go_frame
                        refine wpAnyL_take (i := 4) (v := .int .i64 (k : Int)) rfl (by kernel_rfl) (by kernel_rfl) (by kernel_rfl) (by kernel_rfl) (by kernel_rfl) (fun _ _ _ h => h) (Or.inl ⟨by kernel_rfl, ?_⟩) hS ?_
                        · (intro w' hSw; have s0 := low_cell hSw (Nat.le_refl _) C0.out; have s1 := low_cell hSw (p := ⟨w.heap.size, 0, none⟩) (by have := HW3.out; simp; omega) C1.out; have t0 := low_cell hSw (p := ⟨b, o + k * 4, none⟩) HBN.out P0.out; have t1 := low_cell hSw (p := ⟨b, o + k * 4 + 1, none⟩) HBN.out P1.out; have t2 := low_cell hSw (p := ⟨b, o + k * 4 + 2, none⟩) HBN.out P2.out; have t3 := low_cell hSw (p := ⟨b, o + k * 4 + 3, none⟩) HBN.out P3.out; clear hSw; go_simp)
                        (try simp only [List.getElem_toArray, List.getElem_cons_succ, List.getElem_cons_zero])
                        go_frame
                        refine wpAnyL_take (i := 5) (v := .pointer (some ⟨b, o + k * 4, none⟩)) rfl (by kernel_rfl) (by kernel_rfl) (by kernel_rfl) (by kernel_rfl) (by kernel_rfl) (fun _ _ _ h => h) (Or.inl ⟨by kernel_rfl, ?_⟩) hS ?_
                        · (intro w' hSw; have s0 := low_cell hSw (Nat.le_refl _) C0.out; have s1 := low_cell hSw (p := ⟨w.heap.size, 0, none⟩) (by have := HW3.out; simp; omega) C1.out; have t0 := low_cell hSw (p := ⟨b, o + k * 4, none⟩) HBN.out P0.out; have t1 := low_cell hSw (p := ⟨b, o + k * 4 + 1, none⟩) HBN.out P1.out; have t2 := low_cell hSw (p := ⟨b, o + k * 4 + 2, none⟩) HBN.out P2.out; have t3 := low_cell hSw (p := ⟨b, o + k * 4 + 3, none⟩) HBN.out P3.out; clear hSw; go_simp)
                        (try simp only [List.getElem_toArray, List.getElem_cons_succ, List.getElem_cons_zero])
                        go_frame
                        refine wpAnyL_take (i := 6) (v := .agg #[.int .i64 x1, .int .i64 x2, .int .i64 x3, .int .i64 x4]) rfl (by kernel_rfl) (by kernel_rfl) (by kernel_rfl) (by kernel_rfl) (by kernel_rfl) (fun _ _ _ h => h) (Or.inl ⟨by kernel_rfl, ?_⟩) hS ?_
                        · (intro w' hSw; have s0 := low_cell hSw (Nat.le_refl _) C0.out; have s1 := low_cell hSw (p := ⟨w.heap.size, 0, none⟩) (by have := HW3.out; simp; omega) C1.out; have t0 := low_cell hSw (p := ⟨b, o + k * 4, none⟩) HBN.out P0.out; have t1 := low_cell hSw (p := ⟨b, o + k * 4 + 1, none⟩) HBN.out P1.out; have t2 := low_cell hSw (p := ⟨b, o + k * 4 + 2, none⟩) HBN.out P2.out; have t3 := low_cell hSw (p := ⟨b, o + k * 4 + 3, none⟩) HBN.out P3.out; clear hSw; go_simp)
                        (try simp only [List.getElem_toArray, List.getElem_cons_succ, List.getElem_cons_zero])
                        go_frame
                        refine wpAnyL_one (i := 7) (by kernel_rfl) rfl rfl ?_
                        go_simp
                        have kz : Only (fun q => nb < q) wr (wr.alloc (rfO (x1, x2, x3, x4))).drew := ((Only.refl _ wr).alloc _).drew
                        refine ⟨kz, ?_⟩
                        (try go_frame)
                        clear hS kz
                        refine wpAnyL_one (i := 8) (by kernel_rfl) rfl rfl (oper_appendH _ _ _ rfl rfl rfl Hr ?_)
                        refine ⟨HON.out, ?_⟩
                        (try simp only [List.getElem_toArray, List.getElem_cons_succ, List.getElem_cons_zero])
                        go_frame
                        refine wpAnyL_one (i := 9) (by kernel_rfl) rfl rfl ?_
                        go_simp
                        refine ⟨HON.out, ?_⟩
                        (try simp only [List.getElem_toArray, List.getElem_cons_succ, List.getElem_cons_zero])
                        (try go_frame)
                        refine wpAnyL_last (by kernel_rfl) (by kernel_rfl) rfl rfl ?_
                        go_simp
                        refine NoPanic.normal ?_
                        generalize w1.setCell ⟨nb, 0, none⟩ (.slice (some ⟨g, 0, none⟩) (Q + 1) cap) = w8 at HN8 H8 K8 ⊢
                        clear n6 nf6 hlt6 Hr HON
                        go_wp2
                        go_roundw
                        case rel => exact ⟨k + 1, _, by omega, by go_num, HN8.out, H8.out, K8.out⟩
                        case measure => simp [intOf]; omega
                · have hke : k = L := by omega
                  rw [List.take_of_length_le (by have := HL.out; omega)] at h4 HQ H4
                  have HAD := hid (radd_any wr a4 c4 ⟨keptL l ids, N, G, Lo⟩ lv f t (by show RfSrc wr (.slice a4 (keptL l ids).length c4) (keptL l ids); rw [HQ.out]; exact RfAt.src (B := nb + 1) (by unfold RfAt; rw [HQ.out]; exact H4.out)))
                  rw [← HQY.out] at HAD
                  unfold manV at HAD
                  simp only at HAD
                  rw [HQ.out] at HAD
                  have HZK := hid (Only.blk kr HZ3.out (fun f => f))
                  subst hke
                  clear h4 hN4 kr hq4
                  go_wp2_with fail
                  refine HAD.out.mono ?_
                  rintro e w6 ⟨v6, rfl, h6, k6⟩
                  obtain ⟨⟨l6, N6, G6, Lo6⟩, id6, x6⟩ := QQ
                  simp only at h6 ⊢
                  obtain ⟨L6, hL6⟩ : ∃ L6, l6.length = L6 := ⟨_, rfl⟩
                  have h6' := h6
                  unfold RfAt at h6'
                  rw [hL6] at h6'
                  obtain ⟨a6, c6, rfl⟩ := ownN_slice h6'
                  have hZ6 := Only.blk k6 HZK.out (fun f => f)
                  have hlt12 := hZ6.lt
                  have z0 := hZ6.cell 0 rfl
                  have z1 := hZ6.cell 1 rfl
                  have z2 := hZ6.cell 2 rfl
                  have z3 := hZ6.cell 3 rfl
                  have g0 := hZ6.frozen 0
                  have g1 := hZ6.frozen 1
                  have g2 := hZ6.frozen 2
                  have g3 := hZ6.frozen 3
                  have HE := hid ((((hZ6.set 0 (.slice a6 L6 c6)).set 1 (.int .i64 N6)).set 2 (.int .i64 G6)).set 3 (.int .i64 Lo6))
                  have HF : Hid (R (.returned (.tuple #[.agg #[.slice a6 L6 c6, .int .i64 N6, .int .i64 G6, .int .i64 Lo6], .int .i64 id6, .int .i64 x6])) ((((w6.setCell ⟨w.heap.size + 1, 0, none⟩ (.slice a6 L6 c6)).setCell ⟨w.heap.size + 1, 1, none⟩ (.int .i64 N6)).setCell ⟨w.heap.size + 1, 2, none⟩ (.int .i64 G6)).setCell ⟨w.heap.size + 1, 3, none⟩ (.int .i64 Lo6))) := by
                    rw [← HRR.out]
                    have hKK := K3.out.trans KR.out (fun _ _ f => f)
                    exact ⟨.slice a6 L6 c6, rfl, ownN_base (set4_row h6 _ _ _ _ HZK.out.lt) hKK.size, set4 _ _ _ _ _ _ (hKK.trans k6 (fun _ _ f => f)) (Nat.le_add_right _ 1)⟩
                  clear hZ6 h6 h6' hL6 k6 HAD HRR HQY HBAD n0 n1 n2 n3 m0
                  go_wp2
                  exact ret_man rfl rfl HE.out HF.out rfl rfl
  · have hZ3 := HZ3.out
    have z0 := hZ3.cell 0 rfl
    have z1 := hZ3.cell 1 rfl
    have z2 := hZ3.cell 2 rfl
    have z3 := hZ3.cell 3 rfl
    have g0 := hZ3.frozen 0
    have g1 := hZ3.frozen 1
    have g2 := hZ3.frozen 2
    have g3 := hZ3.frozen 3
    have HF := hid (HBAD.out q w3 K3.out (HSB.out q rfl hz) HZ3.out)
    clear hZ3 HSB HSI HSY HLE
    go_wp2
    exact ret_man rfl rfl HF.out.2 HF.out.1 rfl rfl
end Go.Proofs.Ytmpkafmkkkpdeaa.J
