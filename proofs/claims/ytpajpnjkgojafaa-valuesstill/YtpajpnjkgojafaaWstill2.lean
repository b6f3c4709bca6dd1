/-
  The walk of the law ValuesStill.
-/
import Derived.Test.YtpajpnjkgojafaaWstill
namespace Go.Proofs.Ytpajpnjkgojafaa.V
open Go.RowKit Go.Proofs.Lys
set_option linter.unusedVariables false

/-- The two lists while they are made. -/
structure TwoL (w1 wr : World) (A B : Int) (k : Nat) (s t : Value) : Prop where
  still : wr.ownsRow w1.heap.size 3 1 s k ((List.replicate k A).map (Value.int .i64))
  turns : wr.ownsRow w1.heap.size 3 1 t k ((turnL A B k).map (Value.int .i64))
  kept : Kept w1 wr
  apart : ∀ j, s.ownBlock = some j → t.ownBlock ≠ some j

theorem TwoL.step {w1 wr : World} {A B : Int} {k : Nat} {s t : Value} (h : TwoL w1 wr A B k s t) (hk : k ≤ 1000) :
    ∃ g cap w2, Hid ((Builtin.append_ #[22, 22] 0 #[s, .slice (some ⟨wr.heap.size, 0, none⟩) 1 1]).run Try.prog (wr.alloc (.cells #[.int .i64 A] 3)) = .ok (.slice (some ⟨g, 0, none⟩) (k + 1) cap) w2) ∧
    ∃ g2 cap2 w3, Hid ((Builtin.append_ #[22, 22] 0 #[t, .slice (some ⟨w2.heap.size, 0, none⟩) 1 1]).run Try.prog (w2.alloc (.cells #[.int .i64 A] 3)) = .ok (.slice (some ⟨g2, 0, none⟩) (k + 1) cap2) w3) ∧
    (k % 2 = 0 → TwoL w1 w3 A B (k + 1) (.slice (some ⟨g, 0, none⟩) (k + 1) cap) (.slice (some ⟨g2, 0, none⟩) (k + 1) cap2)) ∧
    (k % 2 = 1 → (∃ u, w3.cell? ⟨g2, k, none⟩ = some u) ∧ w3.frozen? ⟨g2, k, none⟩ = false ∧ TwoL w1 (w3.setCell ⟨g2, k, none⟩ (.int .i64 B)) A B (k + 1) (.slice (some ⟨g, 0, none⟩) (k + 1) cap) (.slice (some ⟨g2, 0, none⟩) (k + 1) cap2)) := by
  have hs0 : wr.ownsRow w1.heap.size 3 1 s (List.replicate k A).length ((List.replicate k A).map (Value.int .i64)) := by rw [List.length_replicate]; exact h.still
  obtain ⟨g, cap, w2, Hr, o2, k2, n2⟩ := own_num2 hs0 h.kept.size (by rw [List.length_replicate]; omega) A
  have hlow : ∀ j, s.ownBlock = some j → w1.heap.size ≤ j := fun j hj => (h.still.lt j hj).1
  have hlow2 : ∀ j, t.ownBlock = some j → w1.heap.size ≤ j ∧ j < wr.heap.size := fun j hj => h.turns.lt j hj
  have kk2 : Kept w1 w2 := h.kept.trans k2 (fun j hj e => by have := hlow j e; omega)
  have ht2 : w2.ownsRow w1.heap.size 3 1 t (turnL A B k).length ((turnL A B k).map (Value.int .i64)) := by
    rw [turnL_length]
    exact own_only h.turns k2 (fun j hj e => h.apart j e hj)
  obtain ⟨g2, cap2, w3, Hr2, o3, k3, n3⟩ := own_num2 ht2 kk2.size (by rw [turnL_length]; omega) A
  rw [List.length_replicate] at Hr o2
  rw [turnL_length] at Hr2 o3
  refine ⟨g, cap, w2, Hr, g2, cap2, w3, Hr2, ?_⟩
  have e1 : List.replicate k A ++ [A] = List.replicate (k + 1) A := by rw [List.replicate_succ']
  have hl1 : (List.replicate k A ++ [A]).length = k + 1 := by simp
  have hl2 : (turnL A B k ++ [A]).length = k + 1 := by simp [turnL_length]
  rw [hl1, e1] at o2
  rw [hl2] at o3
  have hgne : g ≠ g2 := by
    intro e
    have hg : g < w2.heap.size := (o2.lt g rfl).2
    rcases n3 with e3 | e3
    · rcases n2 with e2 | e2
      · exact h.apart g e2 (by rw [e]; exact e3)
      · have := (hlow2 g2 e3).2
        omega
    · omega
  have kk3 : Kept w1 w3 := kk2.trans k3 (fun j hj e => by have := (hlow2 j e).1; omega)
  have o2' : w3.ownsRow w1.heap.size 3 1 (.slice (some ⟨g, 0, none⟩) (k + 1) cap) (k + 1) ((List.replicate (k + 1) A).map (Value.int .i64)) := own_only o2 k3 (fun j hj e => by
    have hj' : g = j := by simpa [Value.ownBlock] using hj
    subst hj'
    rcases n2 with e2 | e2
    · exact h.apart g e2 e
    · have := (hlow2 g e).2
      omega)
  have hap : ∀ j, (Value.slice (some ⟨g, 0, none⟩) (k + 1) cap).ownBlock = some j → (Value.slice (some ⟨g2, 0, none⟩) (k + 1) cap2).ownBlock ≠ some j := by
    intro j hj hj2
    have h1 : g = j := by simpa [Value.ownBlock] using hj
    have h2 : g2 = j := by simpa [Value.ownBlock] using hj2
    exact hgne (h1.trans h2.symm)
  have hg2 : w1.heap.size ≤ g2 := (o3.lt g2 rfl).1
  refine ⟨fun he => ⟨o2', ?_, kk3, hap⟩, fun ho => ⟨?_, o3.frozenAt k, ?_, ?_, kk3.setCell (fun hlt => absurd hlt (by show ¬ g2 < w1.heap.size; omega)) _, hap⟩⟩
  · rw [turnL_succ, if_neg (by omega)]
    exact o3
  · have hc := src_cells (own_src o3) k (.int .i64 A) (by rw [List.map_append, List.getElem?_append_right (by rw [List.length_map, turnL_length]; exact Nat.le_refl _)]; simp [turnL_length])
    rw [Nat.zero_add] at hc
    exact ⟨_, hc⟩
  · exact own_block o2' (fun j hj => Below.heap_setCell _ _ _ _ (by
      have h1 : g = j := by simpa [Value.ownBlock] using hj
      show j ≠ g2
      rw [← h1]
      exact hgne))
  · have := (o3.stored k (.int .i64 B)).1
    rw [turnL_succ, if_pos ho]
    have e5 : ((turnL A B k ++ [A]).map (Value.int .i64)).set k (.int .i64 B) = (turnL A B k ++ [B]).map (Value.int .i64) := by
      rw [List.map_append, List.map_append, List.set_append_right _ _ (by rw [List.length_map, turnL_length]; exact Nat.le_refl _), List.length_map, turnL_length]
      simp
    rw [e5] at this
    exact this

set_option maxRecDepth 100000 in
set_option maxHeartbeats 3200000 in
theorem still_walk (w : World) (A B N : Int) : Calls Try.prog 5 #[.int .i64 A, .int .i64 B, .int .i64 N] w fun e w' => e = .returned (.bool true) ∧ Kept w w' := by
  have hnot : ∀ (x : Bool) (w : World), (Op.unary .not (.bool x)).run Try.prog w = .ok (.bool (!x)) w := fun _ _ => rfl
  by_cases h5 : N < 2
  · go_enter Try.func5, Try.ntmps5
    go_wp2_with (go_at_call 6; refine (alive7_any _).mono ?_; rintro e w1 ⟨rfl, hk⟩)
    go_ret
    exact ⟨rfl, hk⟩
  by_cases h6 : 120 < N
  · go_enter Try.func5, Try.ntmps5
    go_wp2_with (go_at_call 6; refine (alive7_any _).mono ?_; rintro e w1 ⟨rfl, hk⟩)
    go_ret
    exact ⟨rfl, hk⟩
  obtain ⟨n, rfl⟩ : ∃ n : Nat, N = (n : Int) := ⟨N.toNat, by omega⟩
  have hn2 : 2 ≤ n := by omega
  have hn : n ≤ 120 := by omega
  have hd1 : decide ((n : Int) < 2) = false := by simp; omega
  have hd2 : decide ((120 : Int) < (n : Int)) = false := by simp; omega
  clear h5 h6
  go_enter Try.func5, Try.ntmps5
  go_wp2_with fail
  refine (alive7_any _).mono ?_
  rintro e w1 ⟨rfl, hk1⟩
  go_wp2_with fail
  go_loopw [8, 9, 10] (fun s t i wr => ∃ (k : Nat), k ≤ n ∧ i = .int .i64 (k : Int) ∧ TwoL w1 wr A B k s t) (fun _ _ i _ => n - (intOf i).toNat)
  case atStart => exact ⟨0, by omega, rfl, World.ownsRow_nil _ _ _ _, World.ownsRow_nil _ _ _ _, Only.refl _ _, fun j hj => by cases hj⟩
  case round =>
    obtain ⟨k, hk, rfl, hT⟩ := hrel
    by_cases hlt : k < n
    · obtain ⟨g, cap, w2, Hr, g2, cap2, w3, Hr2, hev, hod⟩ := hT.step (by omega)
      clear hT
      rcases Nat.mod_two_eq_zero_or_one k with hm | hm
      · have HE := hid (hev hm)
        have hrem : (k : Int) % 2 = 0 := by omega
        clear hev hod hm
        go_wp2_with (at_builtin; first | refine wpList_append_run rfl _ _ _ rfl rfl rfl Hr ?_ | refine wpList_append_run rfl _ _ _ rfl rfl rfl Hr2 ?_)
        go_roundw
        case rel => exact ⟨k + 1, by omega, by go_num, HE.out⟩
        case measure => simp [intOf]; omega
      · obtain ⟨⟨u, hu⟩, hfz, hE⟩ := hod hm
        have HE := hid hE
        have hrem : (k : Int) % 2 = 1 := by omega
        clear hev hod hm hE
        go_wp2_with (at_builtin; first | refine wpList_append_run rfl _ _ _ rfl rfl rfl Hr ?_ | refine wpList_append_run rfl _ _ _ rfl rfl rfl Hr2 ?_)
        go_roundw
        case rel => exact ⟨k + 1, by omega, by go_num, HE.out⟩
        case measure => simp [intOf]; omega
    · have e : k = n := by omega
      subst e
      have HK : Hid (Kept w wr) := hk1.trans hT.kept (fun _ _ f => f)
      have hpx := pack_any wr _ (List.replicate k A) (own_src hT.still) (by simp; omega)
      obtain ⟨sa, sc, hsv⟩ := own_slice hT.still
      obtain ⟨g2, cap2, htv⟩ := own_some hT.turns (by omega)
      rw [hsv] at hpx
      rw [hsv, htv]
      have HT := hid hT.turns
      rw [htv] at HT
      clear hT hsv htv
      go_wp2_with fail
      refine hpx.mono ?_
      rintro e w2 ⟨k2, u2, bs2, x2, rfl, hP2, ho2⟩
      obtain ⟨hb2, rfl⟩ := hP2.inj (.inr ⟨by simp; omega, rfl, rfl⟩ : Packs (List.replicate k A) (packL (allB (List.replicate k A))) 0)
      have hx : bs2.length = (64 + (k - 1) + 7) / 8 := by
        rw [hb2, packL_length]
        obtain ⟨m, rfl⟩ : ∃ m, k = m + 1 := ⟨k - 1, by omega⟩
        rw [still_len, Nat.add_sub_cancel]
      obtain ⟨ua, uc, rfl⟩ := own_slice ho2
      have HT2 := hid (own_only HT.out k2 (fun _ _ f => f))
      have hpy := pack_any w2 _ (turnL A B k) (own_src HT2.out) (by rw [turnL_length]; omega)
      have HK2 : Hid (Kept w w2) := HK.out.trans k2 (fun _ _ f => f)
      obtain ⟨Lx, hLx⟩ : ∃ Lx, bs2.length = Lx := ⟨_, rfl⟩
      rw [hLx] at hx ⊢
      have HX := hid hx
      clear hx
      clear hP2 hb2 ho2 hpx k2 hLx
      go_wp2_with fail
      refine hpy.mono ?_
      rintro e w3 ⟨k3, u3, bs3, x3, rfl, hP3, ho3⟩
      obtain ⟨hb3, rfl⟩ := hP3.inj (.inr ⟨by rw [turnL_length]; omega, rfl, rfl⟩ : Packs (turnL A B k) (packL (allB (turnL A B k))) 0)
      have hy : bs3.length = ((allB (turnL A B k)).length + 7) / 8 := by rw [hb3, packL_length]
      obtain ⟨va, vc, rfl⟩ := own_slice ho3
      have HT3 := hid (own_only HT2.out k3 (fun _ _ f => f))
      have hT3' := HT3.out
      obtain ⟨Tl, hTl⟩ : ∃ l, turnL A B k = l := ⟨_, rfl⟩
      have hTlen : Tl.length = k := by rw [← hTl, turnL_length]
      rw [hTl] at hT3'
      have hcut := cut_pre (l := Tl) (m := 2) (by rw [hTlen]; exact hT3') (by omega) (by omega)
      rw [hTlen] at hcut
      have htk : Tl.take 2 = turnL A B 2 := by
        rw [← hTl]
        obtain ⟨m, rfl⟩ : ∃ m, k = m + 2 := ⟨k - 2, by omega⟩
        exact turn_take A B m
      rw [htk] at hcut
      have hcap : (2 : Int) ≤ (cap2 : Int) := by
        rcases HT3.out.2 with ⟨e, _⟩ | ⟨g', cap', cur, hv, _, _, hcap, _⟩
        · cases e
        · cases hv
          omega
      have hpz := pack_any w3 _ (turnL A B 2) hcut.1 (by rw [turnL_length]; omega)
      have HK3 : Hid (Kept w w3) := HK2.out.trans k3 (fun _ _ f => f)
      obtain ⟨Ly, hLy⟩ : ∃ Ly, bs3.length = Ly := ⟨_, rfl⟩
      rw [hLy] at hy ⊢
      have HY := hid hy
      clear hy
      clear hP3 hb3 ho3 hpy k3 hLy hT3' hTl hTlen htk hcut
      go_wp2_with fail
      refine hpz.mono ?_
      rintro e w4 ⟨k4, u4, bs4, x4, rfl, hP4, ho4⟩
      obtain ⟨hb4, rfl⟩ := hP4.inj (.inr ⟨by rw [turnL_length]; omega, rfl, rfl⟩ : Packs (turnL A B 2) (packL (allB (turnL A B 2))) 0)
      have hz : bs4.length = ((allB (turnL A B 2)).length + 7) / 8 := by rw [hb4, packL_length]
      obtain ⟨za, zc, rfl⟩ := own_slice ho4
      have HK4 : Hid (Kept w w4) := HK3.out.trans k4 (fun _ _ f => f)
      obtain ⟨Lz, hLz⟩ : ∃ Lz, bs4.length = Lz := ⟨_, rfl⟩
      rw [hLz] at hz ⊢
      have hlen := turn_len A B (k - 2)
      rw [show k - 2 + 2 = k by omega] at hlen
      have hx := HX.out
      have hy := HY.out
      have f1 : (Lx : Int) = (64 + (k : Int) - 1 + 7) / 8 := by omega
      have f2 : (Ly : Int) ≤ (Lz : Int) + ((k : Int) - 2) * 9 := by omega
      have f3 : (Lx : Int) ≤ (Ly : Int) := by omega
      have f4 : Ly ≤ 10000 := by have := hP4.small; omega
      have f5 : Lz ≤ 10000 := by have := hP4.small; omega
      have f2' : decide ((Ly : Int) ≤ (Lz : Int) + ((k : Int) - 2) * 9) = true := by simp only [f2, decide_true]
      clear hP4 hb4 ho4 hpz k4 hLz hlen hx hy hz
      go_wp2_with (go_at_call 9; refine (num7_any _ _).mono ?_; rintro e w' ⟨rfl, hw⟩; replace hw := hw.symm; subst hw)
      go_ret
      exact ⟨by simp; omega, HK4.out⟩
end Go.Proofs.Ytpajpnjkgojafaa.V
