/-
  Package rollup: the document's own Buckets.
-/
import Derived.Test.YtdepgplbcfbopaaYrref
namespace Go.Proofs.Ytdepgplbcfbopaa.Ru
open Go Go.RowKit Go.Proofs.Lys
set_option linter.unusedVariables false
set_option linter.unusedSimpArgs false

theorem take_one {l : Smps} {i : Nat} (h : i < l.length) : (l.take (i + 1)).map one = (l.take i).map one ++ [one l[i]] := by
  rw [← List.take_append_getElem h, List.map_append, List.map_cons, List.map_nil]
set_option maxRecDepth 100000 in
set_option maxHeartbeats 6400000 in
theorem rbuckets_any (w : World) (a : Option Addr) (c L : Nat) (l : Smps) (x : Int) (hs : SmpSrc w (.slice a L c) l) (hL : l.length = L) (hin : ∀ p ∈ l, In64 p.1 ∧ In64 p.2) (hx : In64 x) (hl : L ≤ 90000) :
    Calls Try.prog 9 #[.slice a L c, .int .i64 x] w (GatP w x (l.map one)) := by
  obtain ⟨PQ, hPQ⟩ : ∃ PQ, GatP w x (l.map one) = PQ := ⟨_, rfl⟩
  rw [hPQ]
  have HPQ := hid hPQ
  have HS := hid hs
  have HL := hid hL
  have HIN := hid hin
  have HXX := hid hx
  clear hPQ hs hL hin
  by_cases h1 : x < 1
  · have d1 : decide (x < 1) = true := by simp [h1]
    have HF : Hid (PQ (.returned (.tuple #[.slice none 0 0, .int .i64 1])) w) := hid (by rw [← HPQ.out]; exact ⟨Only.refl _ _, .inl ⟨.inl h1, rfl⟩⟩)
    clear h1 hx
    go_enter Try.func9, Try.ntmps9
    go_wp2
    exact HF.out
  · have d1 : decide (x < 1) = false := by simp; omega
    by_cases h2 : 9007199254740992 < x
    · have d2 : decide (9007199254740992 < x) = true := by simp [h2]
      have HF : Hid (PQ (.returned (.tuple #[.slice none 0 0, .int .i64 1])) w) := hid (by rw [← HPQ.out]; exact ⟨Only.refl _ _, .inl ⟨.inr h2, rfl⟩⟩)
      clear h1 h2 hx
      go_enter Try.func9, Try.ntmps9
      go_wp2
      exact HF.out
    · have d2 : decide (9007199254740992 < x) = false := by simp; omega
      have HB := hid (show 1 ≤ x ∧ x ≤ 9007199254740992 by omega)
      have HTM := hid (rtimes_any w a c L l HS.out HL.out (by omega))
      clear h1 h2 hx
      go_enter Try.func9, Try.ntmps9
      go_wp2_with fail
      refine HTM.out.mono ?_
      rintro e w2 ⟨tv, rfl, ht, k2⟩
      have HRS := hid (rrising_any w2 tv _ ht (by rw [List.length_map]; have := HL.out; omega))
      have K2 := hid k2
      clear HTM ht k2
      go_wp2_with fail
      refine HRS.out.mono ?_
      rintro e w3 ⟨k3, ⟨rfl, hr⟩ | ⟨rfl, hr⟩⟩
      · have HOK : Hid (okT T0 (l.map one)) := hid ((rising_okT _ l rfl).1 hr)
        have K3 := hid (K2.out.trans k3 (fun _ _ f => f))
        clear k3 hr HRS
        go_wp2
        go_loopw [7, 8] (fun v s wr => ∃ (i M : Nat) (acc : Bks) (g : Option Addr) (cc : Nat), i ≤ L ∧ s = .int .i64 (i : Int) ∧ .slice g M cc = v ∧ Hid (gat x ((l.take i).map one) = acc ∧ acc.length = M) ∧ Hid (wr.ownsRow w.heap.size 38 6 (.slice g M cc) M (bkL acc)) ∧ Kept w wr) (fun _ s _ => L - (intOf s).toNat)
        case atStart => exact ⟨0, 0, [], none, 0, by omega, rfl, rfl, hid ⟨rfl, rfl⟩, hid (World.ownsRow_nil _ _ _ _), K3.out⟩
        case round =>
          obtain ⟨i, M, acc, g0, cc, hi, rfl, rfl, hg, hv, kr⟩ := hrel
          have KR := hid kr
          by_cases hlt : i < L
          · have hil : i < l.length := by have := HL.out; omega
            obtain ⟨b, o, rfl, c0, c1⟩ := (HS.out.stay kr).cell HL.out i hlt
            have hp := HIN.out l[i] (List.getElem_mem hil)
            have hto := take_one hil
            obtain ⟨⟨T, V⟩, hTV⟩ : ∃ p, l[i] = p := ⟨_, rfl⟩
            rw [hTV] at c0 c1 hp hto
            simp only at c0 c1 hp
            have HP := hid hp
            obtain ⟨F, hF⟩ : ∃ F, floorB T x = F := ⟨_, rfl⟩
            have HFL : Hid (∀ W, Calls Try.prog 13 #[.int .i64 T, .int .i64 x] W fun e w' => e = .returned (.int .i64 F) ∧ w' = W) := hid (fun W => by rw [← hF]; exact rfloor_any T x W HP.out.1 HXX.out)
            have HG : Hid (gat x ((l.take (i + 1)).map one) = push acc ⟨F, 1, V, V, V, V⟩) := hid (by
              rw [hto, gat_snoc, hg.out.1, ← hF]
              rfl)
            have HOB : Hid (∀ X, Kept wr X → X.cell? ⟨b, o + i * 2, none⟩ = some (.int .i64 T) ∧ X.cell? ⟨b, o + i * 2 + 1, none⟩ = some (.int .i64 V)) := hid (fun X k => ⟨only_cell k (fun f => f) c0, only_cell k (fun f => f) c1⟩)
            have hok : ∀ y ∈ acc, BkOk 90000 y := by
              intro y hy
              rw [← hg.out.1] at hy
              have q := gat_ok x 1 ((l.take i).map one) (fun b hb => by
                obtain ⟨p, hp, rfl⟩ := List.mem_map.1 hb
                have := HIN.out p (List.mem_of_mem_take hp)
                exact one_ok this.1 this.2) y hy
              exact q.mono (by simp; omega)
            have hML : M ≤ i := by
              have q := gat_len x ((l.take i).map one)
              rw [hg.out.1, hg.out.2] at q
              simp at q
              omega
            have HOKA := hid hok
            have hbo : BkOk 1 ⟨F, 1, V, V, V, V⟩ := by
              have q := (one_ok (p := (T, V)) HP.out.1 HP.out.2).mv x
              unfold mv one at q
              rw [hF] at q
              exact q
            have HBO := hid hbo
            clear hp hto hTV hF hok hbo kr
            go_wp2_with fail
            apply wp_region_meet0 (fun W => Kept wr W ∧ Blk W wr.heap.size [.int .i64 F, .int .i64 1, .int .i64 V, .int .i64 V, .int .i64 V, .int .i64 V] 38)
            · refine wp_region_noPanic ?_
              refine wp_region_last (L := 29) (S := fun w' => Kept wr w') (by kernel_rfl) ?_
              have hS : (fun w' : World => Kept wr w') wr.drew := (Only.refl _ wr).drew
              refine wpAnyL_take (i := 0) (v := .slice (some ⟨b, o, none⟩) L c) rfl (by kernel_rfl) (by kernel_rfl) (by kernel_rfl) (by kernel_rfl) (by kernel_rfl) (fun _ _ _ h => h) (Or.inl ⟨by kernel_rfl, ?_⟩) hS ?_
              · (intro w' hSw; obtain ⟨x0, x1⟩ := HOB.out w' hSw; clear hSw; go_simp)
              (try simp only [List.getElem_toArray, List.getElem_cons_succ, List.getElem_cons_zero])
              go_frame
              refine wpAnyL_take (i := 1) (v := .int .i64 (i : Int)) rfl (by kernel_rfl) (by kernel_rfl) (by kernel_rfl) (by kernel_rfl) (by kernel_rfl) (fun _ _ _ h => h) (Or.inl ⟨by kernel_rfl, ?_⟩) hS ?_
              · (intro w' hSw; obtain ⟨x0, x1⟩ := HOB.out w' hSw; clear hSw; go_simp)
              (try simp only [List.getElem_toArray, List.getElem_cons_succ, List.getElem_cons_zero])
              go_frame
              refine wpAnyL_take (i := 2) (v := .pointer (some ⟨b, o + i * 2, none⟩)) rfl (by kernel_rfl) (by kernel_rfl) (by kernel_rfl) (by kernel_rfl) (by kernel_rfl) (fun _ _ _ h => h) (Or.inl ⟨by kernel_rfl, ?_⟩) hS ?_
              · (intro w' hSw; obtain ⟨x0, x1⟩ := HOB.out w' hSw; clear hSw; go_simp)
              (try simp only [List.getElem_toArray, List.getElem_cons_succ, List.getElem_cons_zero])
              go_frame
              refine wpAnyL_take (i := 3) (v := .pointer (some ⟨b, o + i * 2, none⟩)) rfl (by kernel_rfl) (by kernel_rfl) (by kernel_rfl) (by kernel_rfl) (by kernel_rfl) (fun _ _ _ h => h) (Or.inl ⟨by kernel_rfl, ?_⟩) hS ?_
              · (intro w' hSw; obtain ⟨x0, x1⟩ := HOB.out w' hSw; clear hSw; go_simp)
              (try simp only [List.getElem_toArray, List.getElem_cons_succ, List.getElem_cons_zero])
              go_frame
              refine wpAnyL_take (i := 4) (v := .int .i64 T) rfl (by kernel_rfl) (by kernel_rfl) (by kernel_rfl) (by kernel_rfl) (by kernel_rfl) (fun _ _ _ h => h) (Or.inl ⟨by kernel_rfl, ?_⟩) hS ?_
              · (intro w' hSw; obtain ⟨x0, x1⟩ := HOB.out w' hSw; clear hSw; go_simp)
              (try simp only [List.getElem_toArray, List.getElem_cons_succ, List.getElem_cons_zero])
              go_frame
              refine wpAnyL_take (i := 5) (v := .int .i64 x) rfl (by kernel_rfl) (by kernel_rfl) (by kernel_rfl) (by kernel_rfl) (by kernel_rfl) (fun _ _ _ h => h) (Or.inl ⟨by kernel_rfl, ?_⟩) hS ?_
              · (intro w' hSw; obtain ⟨x0, x1⟩ := HOB.out w' hSw; clear hSw; go_simp)
              (try simp only [List.getElem_toArray, List.getElem_cons_succ, List.getElem_cons_zero])
              go_frame
              refine wpAnyL_take (i := 7) (v := .slice (some ⟨b, o, none⟩) L c) rfl (by kernel_rfl) (by kernel_rfl) (by kernel_rfl) (by kernel_rfl) (by kernel_rfl) (fun _ _ _ h => h) (Or.inl ⟨by kernel_rfl, ?_⟩) hS ?_
              · (intro w' hSw; obtain ⟨x0, x1⟩ := HOB.out w' hSw; clear hSw; go_simp)
              (try simp only [List.getElem_toArray, List.getElem_cons_succ, List.getElem_cons_zero])
              go_frame
              refine wpAnyL_take (i := 8) (v := .int .i64 (i : Int)) rfl (by kernel_rfl) (by kernel_rfl) (by kernel_rfl) (by kernel_rfl) (by kernel_rfl) (fun _ _ _ h => h) (Or.inl ⟨by kernel_rfl, ?_⟩) hS ?_
              · (intro w' hSw; obtain ⟨x0, x1⟩ := HOB.out w' hSw; clear hSw; go_simp)
              (try simp only [List.getElem_toArray, List.getElem_cons_succ, List.getElem_cons_zero])
              go_frame
              refine wpAnyL_take (i := 9) (v := .pointer (some ⟨b, o + i * 2, none⟩)) rfl (by kernel_rfl) (by kernel_rfl) (by kernel_rfl) (by kernel_rfl) (by kernel_rfl) (fun _ _ _ h => h) (Or.inl ⟨by kernel_rfl, ?_⟩) hS ?_
              · (intro w' hSw; obtain ⟨x0, x1⟩ := HOB.out w' hSw; clear hSw; go_simp)
              (try simp only [List.getElem_toArray, List.getElem_cons_succ, List.getElem_cons_zero])
              go_frame
              refine wpAnyL_take (i := 10) (v := .pointer (some ⟨b, o + i * 2 + 1, none⟩)) rfl (by kernel_rfl) (by kernel_rfl) (by kernel_rfl) (by kernel_rfl) (by kernel_rfl) (fun _ _ _ h => h) (Or.inl ⟨by kernel_rfl, ?_⟩) hS ?_
              · (intro w' hSw; obtain ⟨x0, x1⟩ := HOB.out w' hSw; clear hSw; go_simp)
              (try simp only [List.getElem_toArray, List.getElem_cons_succ, List.getElem_cons_zero])
              go_frame
              refine wpAnyL_take (i := 11) (v := .int .i64 V) rfl (by kernel_rfl) (by kernel_rfl) (by kernel_rfl) (by kernel_rfl) (by kernel_rfl) (fun _ _ _ h => h) (Or.inl ⟨by kernel_rfl, ?_⟩) hS ?_
              · (intro w' hSw; obtain ⟨x0, x1⟩ := HOB.out w' hSw; clear hSw; go_simp)
              (try simp only [List.getElem_toArray, List.getElem_cons_succ, List.getElem_cons_zero])
              go_frame
              refine wpAnyL_take (i := 12) (v := .slice (some ⟨b, o, none⟩) L c) rfl (by kernel_rfl) (by kernel_rfl) (by kernel_rfl) (by kernel_rfl) (by kernel_rfl) (fun _ _ _ h => h) (Or.inl ⟨by kernel_rfl, ?_⟩) hS ?_
              · (intro w' hSw; obtain ⟨x0, x1⟩ := HOB.out w' hSw; clear hSw; go_simp)
              (try simp only [List.getElem_toArray, List.getElem_cons_succ, List.getElem_cons_zero])
              go_frame
              refine wpAnyL_take (i := 13) (v := .int .i64 (i : Int)) rfl (by kernel_rfl) (by kernel_rfl) (by kernel_rfl) (by kernel_rfl) (by kernel_rfl) (fun _ _ _ h => h) (Or.inl ⟨by kernel_rfl, ?_⟩) hS ?_
              · (intro w' hSw; obtain ⟨x0, x1⟩ := HOB.out w' hSw; clear hSw; go_simp)
              (try simp only [List.getElem_toArray, List.getElem_cons_succ, List.getElem_cons_zero])
              go_frame
              refine wpAnyL_take (i := 14) (v := .pointer (some ⟨b, o + i * 2, none⟩)) rfl (by kernel_rfl) (by kernel_rfl) (by kernel_rfl) (by kernel_rfl) (by kernel_rfl) (fun _ _ _ h => h) (Or.inl ⟨by kernel_rfl, ?_⟩) hS ?_
              · (intro w' hSw; obtain ⟨x0, x1⟩ := HOB.out w' hSw; clear hSw; go_simp)
              (try simp only [List.getElem_toArray, List.getElem_cons_succ, List.getElem_cons_zero])
              go_frame
              refine wpAnyL_take (i := 15) (v := .pointer (some ⟨b, o + i * 2 + 1, none⟩)) rfl (by kernel_rfl) (by kernel_rfl) (by kernel_rfl) (by kernel_rfl) (by kernel_rfl) (fun _ _ _ h => h) (Or.inl ⟨by kernel_rfl, ?_⟩) hS ?_
              · (intro w' hSw; obtain ⟨x0, x1⟩ := HOB.out w' hSw; clear hSw; go_simp)
              (try simp only [List.getElem_toArray, List.getElem_cons_succ, List.getElem_cons_zero])
              go_frame
              refine wpAnyL_take (i := 16) (v := .int .i64 V) rfl (by kernel_rfl) (by kernel_rfl) (by kernel_rfl) (by kernel_rfl) (by kernel_rfl) (fun _ _ _ h => h) (Or.inl ⟨by kernel_rfl, ?_⟩) hS ?_
              · (intro w' hSw; obtain ⟨x0, x1⟩ := HOB.out w' hSw; clear hSw; go_simp)
              (try simp only [List.getElem_toArray, List.getElem_cons_succ, List.getElem_cons_zero])
              go_frame
              refine wpAnyL_take (i := 17) (v := .slice (some ⟨b, o, none⟩) L c) rfl (by kernel_rfl) (by kernel_rfl) (by kernel_rfl) (by kernel_rfl) (by kernel_rfl) (fun _ _ _ h => h) (Or.inl ⟨by kernel_rfl, ?_⟩) hS ?_
              · (intro w' hSw; obtain ⟨x0, x1⟩ := HOB.out w' hSw; clear hSw; go_simp)
              (try simp only [List.getElem_toArray, List.getElem_cons_succ, List.getElem_cons_zero])
              go_frame
              refine wpAnyL_take (i := 18) (v := .int .i64 (i : Int)) rfl (by kernel_rfl) (by kernel_rfl) (by kernel_rfl) (by kernel_rfl) (by kernel_rfl) (fun _ _ _ h => h) (Or.inl ⟨by kernel_rfl, ?_⟩) hS ?_
              · (intro w' hSw; obtain ⟨x0, x1⟩ := HOB.out w' hSw; clear hSw; go_simp)
              (try simp only [List.getElem_toArray, List.getElem_cons_succ, List.getElem_cons_zero])
              go_frame
              refine wpAnyL_take (i := 19) (v := .pointer (some ⟨b, o + i * 2, none⟩)) rfl (by kernel_rfl) (by kernel_rfl) (by kernel_rfl) (by kernel_rfl) (by kernel_rfl) (fun _ _ _ h => h) (Or.inl ⟨by kernel_rfl, ?_⟩) hS ?_
              · (intro w' hSw; obtain ⟨x0, x1⟩ := HOB.out w' hSw; clear hSw; go_simp)
              (try simp only [List.getElem_toArray, List.getElem_cons_succ, List.getElem_cons_zero])
              go_frame
              refine wpAnyL_take (i := 20) (v := .pointer (some ⟨b, o + i * 2 + 1, none⟩)) rfl (by kernel_rfl) (by kernel_rfl) (by kernel_rfl) (by kernel_rfl) (by kernel_rfl) (fun _ _ _ h => h) (Or.inl ⟨by kernel_rfl, ?_⟩) hS ?_
              · (intro w' hSw; obtain ⟨x0, x1⟩ := HOB.out w' hSw; clear hSw; go_simp)
              (try simp only [List.getElem_toArray, List.getElem_cons_succ, List.getElem_cons_zero])
              go_frame
              refine wpAnyL_take (i := 21) (v := .int .i64 V) rfl (by kernel_rfl) (by kernel_rfl) (by kernel_rfl) (by kernel_rfl) (by kernel_rfl) (fun _ _ _ h => h) (Or.inl ⟨by kernel_rfl, ?_⟩) hS ?_
              · (intro w' hSw; obtain ⟨x0, x1⟩ := HOB.out w' hSw; clear hSw; go_simp)
              (try simp only [List.getElem_toArray, List.getElem_cons_succ, List.getElem_cons_zero])
              go_frame
              refine wpAnyL_take (i := 22) (v := .slice (some ⟨b, o, none⟩) L c) rfl (by kernel_rfl) (by kernel_rfl) (by kernel_rfl) (by kernel_rfl) (by kernel_rfl) (fun _ _ _ h => h) (Or.inl ⟨by kernel_rfl, ?_⟩) hS ?_
              · (intro w' hSw; obtain ⟨x0, x1⟩ := HOB.out w' hSw; clear hSw; go_simp)
              (try simp only [List.getElem_toArray, List.getElem_cons_succ, List.getElem_cons_zero])
              go_frame
              refine wpAnyL_take (i := 23) (v := .int .i64 (i : Int)) rfl (by kernel_rfl) (by kernel_rfl) (by kernel_rfl) (by kernel_rfl) (by kernel_rfl) (fun _ _ _ h => h) (Or.inl ⟨by kernel_rfl, ?_⟩) hS ?_
              · (intro w' hSw; obtain ⟨x0, x1⟩ := HOB.out w' hSw; clear hSw; go_simp)
              (try simp only [List.getElem_toArray, List.getElem_cons_succ, List.getElem_cons_zero])
              go_frame
              refine wpAnyL_take (i := 24) (v := .pointer (some ⟨b, o + i * 2, none⟩)) rfl (by kernel_rfl) (by kernel_rfl) (by kernel_rfl) (by kernel_rfl) (by kernel_rfl) (fun _ _ _ h => h) (Or.inl ⟨by kernel_rfl, ?_⟩) hS ?_
              · (intro w' hSw; obtain ⟨x0, x1⟩ := HOB.out w' hSw; clear hSw; go_simp)
              (try simp only [List.getElem_toArray, List.getElem_cons_succ, List.getElem_cons_zero])
              go_frame
              refine wpAnyL_take (i := 25) (v := .pointer (some ⟨b, o + i * 2 + 1, none⟩)) rfl (by kernel_rfl) (by kernel_rfl) (by kernel_rfl) (by kernel_rfl) (by kernel_rfl) (fun _ _ _ h => h) (Or.inl ⟨by kernel_rfl, ?_⟩) hS ?_
              · (intro w' hSw; obtain ⟨x0, x1⟩ := HOB.out w' hSw; clear hSw; go_simp)
              (try simp only [List.getElem_toArray, List.getElem_cons_succ, List.getElem_cons_zero])
              go_frame
              refine wpAnyL_take (i := 26) (v := .int .i64 V) rfl (by kernel_rfl) (by kernel_rfl) (by kernel_rfl) (by kernel_rfl) (by kernel_rfl) (fun _ _ _ h => h) (Or.inl ⟨by kernel_rfl, ?_⟩) hS ?_
              · (intro w' hSw; obtain ⟨x0, x1⟩ := HOB.out w' hSw; clear hSw; go_simp)
              (try simp only [List.getElem_toArray, List.getElem_cons_succ, List.getElem_cons_zero])
              go_frame
              refine wpAnyL_two (i := 6) (j := 28) (by kernel_rfl) rfl rfl (by kernel_rfl) (by kernel_rfl) ?_ ?_
              · go_simp
                refine (HFL.out _).mono ?_
                rintro e w2 ⟨rfl, rfl⟩
                refine ⟨hS, ?_⟩
                (try simp only [List.getElem_toArray, List.getElem_cons_succ, List.getElem_cons_zero])
                (try go_frame)
                refine wpAnyL_take (i := 27) (v := .agg #[.int .i64 F, .int .i64 1, .int .i64 V, .int .i64 V, .int .i64 V, .int .i64 V]) rfl (by kernel_rfl) (by kernel_rfl) (by kernel_rfl) (by kernel_rfl) (by kernel_rfl) (fun _ _ _ h => h) (Or.inl ⟨by kernel_rfl, ?_⟩) hS ?_
                · (intro w' hSw; obtain ⟨x0, x1⟩ := HOB.out w' hSw; clear hSw; go_simp)
                (try simp only [List.getElem_toArray, List.getElem_cons_succ, List.getElem_cons_zero])
                go_frame
                refine wpAnyL_one (i := 28) (by kernel_rfl) rfl (by kernel_rfl) ?_
                go_simp
                refine ⟨hS.alloc _, ?_⟩
                (try go_frame)
                refine wpAnyL_last (by kernel_rfl) (by kernel_rfl) rfl (by kernel_rfl) ?_
                go_simp
                exact NoPanic.normal ⟨rfl, rfl, ((Only.refl _ wr).alloc _).drew, (Blk.new wr [.int .i64 F, .int .i64 1, .int .i64 V, .int .i64 V, .int .i64 V, .int .i64 V] 38).drew⟩
              · go_simp
                refine ⟨hS.alloc _, ?_⟩
                (try simp only [List.getElem_toArray, List.getElem_cons_succ, List.getElem_cons_zero])
                (try go_frame)
                refine wpAnyL_one (i := 6) (by kernel_rfl) rfl (by kernel_rfl) ?_
                go_simp
                refine (HFL.out _).mono ?_
                rintro e w2 ⟨rfl, rfl⟩
                refine ⟨hS.alloc _, ?_⟩
                refine wpAnyL_one (i := 27) (by kernel_rfl) rfl (by kernel_rfl) ?_
                go_simp
                refine ⟨hS.alloc _, ?_⟩
                (try go_frame)
                refine wpAnyL_last (by kernel_rfl) (by kernel_rfl) rfl (by kernel_rfl) ?_
                go_simp
                exact NoPanic.normal ⟨rfl, rfl, ((Only.refl _ wr).alloc _).drew, (Blk.new wr [.int .i64 F, .int .i64 1, .int .i64 V, .int .i64 V, .int .i64 V, .int .i64 V] 38).drew⟩
            · rintro w1 ⟨k1, hB1⟩
              have KW1 := hid (KR.out.trans k1 (fun _ _ f => f))
              have HBB : Hid (∀ X, Kept w1 X → X.cell? ⟨wr.heap.size, 0, none⟩ = some (.int .i64 F) ∧ X.cell? ⟨wr.heap.size, 1, none⟩ = some (.int .i64 1) ∧ X.cell? ⟨wr.heap.size, 2, none⟩ = some (.int .i64 V) ∧ X.cell? ⟨wr.heap.size, 3, none⟩ = some (.int .i64 V) ∧ X.cell? ⟨wr.heap.size, 4, none⟩ = some (.int .i64 V) ∧ X.cell? ⟨wr.heap.size, 5, none⟩ = some (.int .i64 V)) := hid (fun X k => by
                have h := Only.blk k hB1 (fun f => f)
                exact ⟨h.cell 0 rfl, h.cell 1 rfl, h.cell 2 rfl, h.cell 3 rfl, h.cell 4 rfl, h.cell 5 rfl⟩)
              obtain ⟨z0, z1, z2, z3, z4, z5⟩ := HBB.out w1 (Only.refl _ w1)
              have hrow1 := ownN_stay hv.out k1
              have HRW := hid hrow1
              have HGM := hid hg.out.2
              have hBlt := hB1.lt
              clear c0 c1 k1 hB1 hg hv HOB HFL
              have HAPP : Hid (∀ X, Kept w1 X → ∃ g2 cap2 w4, Hid ((Builtin.append_ #[24, 24] 0 #[.slice g0 M cc, .slice (some ⟨X.heap.size, 0, none⟩) 1 1]).run Try.prog (X.alloc (.cells #[.int .i64 F, .int .i64 1, .int .i64 V, .int .i64 V, .int .i64 V, .int .i64 V] 38)) = .ok (.slice (some ⟨g2, 0, none⟩) (M + 1) cap2) w4) ∧
                  Hid (w4.ownsRow w.heap.size 38 6 (.slice (some ⟨g2, 0, none⟩) (M + 1) cap2) (M + 1) (bkL (acc ++ [⟨F, 1, V, V, V, V⟩]))) ∧ Hid (Kept w w4)) := hid (fun X k => by
                have h1 : BkAt X w.heap.size (.slice g0 M cc) acc := by
                  show World.ownsRow _ _ _ _ _ _ _
                  rw [HGM.out]
                  exact ownN_stay HRW.out k
                obtain ⟨g2, cap2, w4, hr, h2, h3, _⟩ := bk_app h1 ⟨F, 1, V, V, V, V⟩ (by rw [HGM.out]; omega) (Nat.le_trans KW1.out.size k.size)
                have hn : (acc ++ [(⟨F, 1, V, V, V, V⟩ : Bk)]).length = M + 1 := by rw [List.length_append, HGM.out]; rfl
                rw [HGM.out] at hr h2
                unfold BkAt at h2
                rw [hn] at h2
                exact ⟨g2, cap2, w4, hr, hid h2, hid ((KW1.out.trans k (fun _ _ f => f)).trans h3 (fun j hj h => by have := (ownN_lt h1 h).1; omega))⟩)
              rcases List.eq_nil_or_concat acc with ha | ⟨t, y, ha⟩
              · subst ha
                have hM0 : M = 0 := HGM.out.symm
                have HGA : Hid (gat x ((l.take (i + 1)).map one) = [] ++ [(⟨F, 1, V, V, V, V⟩ : Bk)]) := hid (by rw [HG.out]; rfl)
                have HLA : Hid (([] ++ [(⟨F, 1, V, V, V, V⟩ : Bk)] : Bks).length = M + 1) := hid (by rw [hM0]; rfl)
                subst hM0
                clear hrow1
                go_wp2_with fail
                go_quiet (fail)
                obtain ⟨g2, cap2, w4, HR, HROW, HK4⟩ := HAPP.out (w1.drewN nq) (kept_drewN (Only.refl _ w1) nq)
                have HD := hid (HBB.out (w1.drewN nq) (kept_drewN (Only.refl _ w1) nq))
                obtain ⟨z0, z1, z2, z3, z4, z5⟩ := HD.out
                go_wp2_with (at_builtin; refine wpList_append_run rfl _ _ _ rfl rfl rfl HR ?_)
                go_roundw
                case rel => exact ⟨i + 1, _, _, _, _, by omega, by go_num, rfl, hid ⟨HGA.out, HLA.out⟩, HROW, HK4.out⟩
                case measure => simp [intOf]; omega
              · rw [List.concat_eq_append] at ha
                subst ha
                obtain ⟨Lt, hLt⟩ : ∃ Lt, t.length = Lt := ⟨_, rfl⟩
                have hMt : M = Lt + 1 := by rw [← HGM.out, List.length_append, hLt]; rfl
                obtain ⟨g, cap9, hge⟩ := ownN_some hrow1 (by omega)
                cases hge
                have hxc := bk_cells (t := t) (x := y) (w := w1) (B := w.heap.size) (g := g) (cap := cc) (n := M) (by show World.ownsRow _ _ _ _ _ _ _; rw [HGM.out]; exact HRW.out) (by omega)
                rw [hLt] at hxc
                have HXC := hid hxc
                have yt := hxc.six.1
                have hM1 : (M : Int) - 1 = (Lt : Int) := by omega
                have hML2 : Lt < M := by omega
                have hMp : 0 < M := by omega
                have d0 : decide (0 < (M : Int)) = true := by simp; omega
                have hyo := HOKA.out y (by simp)
                by_cases hne : y.t = F
                · have HJ : Hid (∀ X, Kept w1 X → Calls Try.prog 19 #[bkV y, bkV ⟨F, 1, V, V, V, V⟩] X fun e w' => e = .returned (bkV (joinB y ⟨F, 1, V, V, V, V⟩)) ∧ Kept X w') := hid (fun X _ => rjoin_any X y _ 90000 1 hyo HBO.out (by omega))
                  have HST : Hid (∀ X, Kept w1 X → (∀ i, X.frozen? ⟨g, i, none⟩ = false) ∧ (∀ q, q = put6 X g (Lt * 6) (.int .i64 (joinB y ⟨F, 1, V, V, V, V⟩).t) (.int .i64 (joinB y ⟨F, 1, V, V, V, V⟩).c) (.int .i64 (joinB y ⟨F, 1, V, V, V, V⟩).s) (.int .i64 (joinB y ⟨F, 1, V, V, V, V⟩).mn) (.int .i64 (joinB y ⟨F, 1, V, V, V, V⟩).mx) (.int .i64 (joinB y ⟨F, 1, V, V, V, V⟩).la) → Hid (q.ownsRow w.heap.size 38 6 (.slice (some ⟨g, 0, none⟩) M cc) M (bkL ((t ++ [y]).set Lt (joinB y ⟨F, 1, V, V, V, V⟩)))) ∧ Hid (Kept w q))) := hid (fun X kX => by
                    have hla : (t ++ [y]).length = M := HGM.out
                    have h1 : BkAt X w.heap.size (.slice (some ⟨g, 0, none⟩) (t ++ [y]).length cc) (t ++ [y]) := by rw [hla]; show World.ownsRow _ _ _ _ _ _ _; rw [hla]; exact ownN_stay HRW.out kX
                    have h2 := bk_set h1 (k := Lt) (by omega) (joinB y ⟨F, 1, V, V, V, V⟩)
                    refine ⟨h2.1, fun q hq => ?_⟩
                    have hg0 := (ownN_lt HRW.out (k := g) rfl).1
                    have hn : ∀ i : Nat, (⟨g, i, none⟩ : Addr).block < w.heap.size → False := fun i h => by have : g < w.heap.size := h; omega
                    have hls : ((t ++ [y]).set Lt (joinB y ⟨F, 1, V, V, V, V⟩)).length = M := by rw [List.length_set, hla]
                    have h3 := h2.2
                    unfold BkAt at h3
                    rw [hls, hla] at h3
                    rw [hq]
                    refine ⟨hid h3, hid ?_⟩
                    exact ((((((KW1.out.trans kX (fun _ _ f => f)).setCell (hn _) _).setCell (hn _) _).setCell (hn _) _).setCell (hn _) _).setCell (hn _) _).setCell (hn _) _)
                  have HGA : Hid (gat x ((l.take (i + 1)).map one) = (t ++ [y]).set Lt (joinB y ⟨F, 1, V, V, V, V⟩)) := hid (by
                    rw [HG.out, ← hLt]
                    exact push_one t y _ hne)
                  have HLA : Hid (((t ++ [y]).set Lt (joinB y ⟨F, 1, V, V, V, V⟩)).length = M) := hid (by rw [List.length_set]; exact HGM.out)
                  obtain ⟨y0, y1, y2, y3, y4, y5⟩ := y
                  have HSX : Hid (∀ X, Kept w1 X → X.cell? ⟨g, Lt * 6, none⟩ = some (.int .i64 y0) ∧ X.cell? ⟨g, Lt * 6 + 1, none⟩ = some (.int .i64 y1) ∧ X.cell? ⟨g, Lt * 6 + 2, none⟩ = some (.int .i64 y2) ∧ X.cell? ⟨g, Lt * 6 + 3, none⟩ = some (.int .i64 y3) ∧ X.cell? ⟨g, Lt * 6 + 4, none⟩ = some (.int .i64 y4) ∧ X.cell? ⟨g, Lt * 6 + 5, none⟩ = some (.int .i64 y5)) := hid (fun X k => (bkC_stay HXC.out k (fun f => f)).six)
                  unfold bkV at HJ
                  simp only [joinB] at HJ HST hne yt HGA HLA
                  subst hne
                  obtain ⟨JS, hJS⟩ : ∃ JS, addC y2 V = JS := ⟨_, rfl⟩
                  obtain ⟨JM, hJM⟩ : ∃ JM, min y3 V = JM := ⟨_, rfl⟩
                  obtain ⟨JX, hJX⟩ : ∃ JX, max y4 V = JX := ⟨_, rfl⟩
                  obtain ⟨JC, hJC⟩ : ∃ JC, y1 + 1 = JC := ⟨_, rfl⟩
                  rw [hJS, hJM, hJX, hJC] at HJ HST HGA HLA
                  clear hrow1 hxc HXC hyo hJS hJM hJX hJC HAPP hMt hLt
                  go_wp2_with fail
                  go_quiet (fail)
                  go_wp2_with fail
                  have hS : (fun w' : World => Kept w1 w') (w1.drewN nq).drew := (kept_drewN (Only.refl _ w1) nq).drew
                  refine wp_region_noPanic ?_
                  refine wp_region_last (L := 11) (S := fun w' => Kept w1 w') (by kernel_rfl) ?_
                  refine wpAnyL_take (i := 0) (v := .slice (some ⟨g, 0, none⟩) M cc) rfl (by kernel_rfl) (by kernel_rfl) (by kernel_rfl) (by kernel_rfl) (by kernel_rfl) (fun _ _ _ h => h) (Or.inl ⟨by kernel_rfl, ?_⟩) hS ?_
                  · (intro w' hSw; obtain ⟨q0, q1, q2, q3, q4, q5⟩ := HSX.out w' hSw; obtain ⟨z0, z1, z2, z3, z4, z5⟩ := HBB.out w' hSw; clear hSw; go_simp)
                  (try simp only [List.getElem_toArray, List.getElem_cons_succ, List.getElem_cons_zero])
                  go_frame
                  refine wpAnyL_take (i := 1) (v := .int .i64 (M : Int)) rfl (by kernel_rfl) (by kernel_rfl) (by kernel_rfl) (by kernel_rfl) (by kernel_rfl) (fun _ _ _ h => h) (Or.inl ⟨by kernel_rfl, ?_⟩) hS ?_
                  · (intro w' hSw; obtain ⟨q0, q1, q2, q3, q4, q5⟩ := HSX.out w' hSw; obtain ⟨z0, z1, z2, z3, z4, z5⟩ := HBB.out w' hSw; clear hSw; go_simp)
                  (try simp only [List.getElem_toArray, List.getElem_cons_succ, List.getElem_cons_zero])
                  go_frame
                  refine wpAnyL_take (i := 2) (v := .int .i64 (Lt : Int)) rfl (by kernel_rfl) (by kernel_rfl) (by kernel_rfl) (by kernel_rfl) (by kernel_rfl) (fun _ _ _ h => h) (Or.inl ⟨by kernel_rfl, ?_⟩) hS ?_
                  · (intro w' hSw; obtain ⟨q0, q1, q2, q3, q4, q5⟩ := HSX.out w' hSw; obtain ⟨z0, z1, z2, z3, z4, z5⟩ := HBB.out w' hSw; clear hSw; go_simp; rw [IntKind.wrap_i64]; omega)
                  (try simp only [List.getElem_toArray, List.getElem_cons_succ, List.getElem_cons_zero])
                  go_frame
                  refine wpAnyL_take (i := 3) (v := .slice (some ⟨g, 0, none⟩) M cc) rfl (by kernel_rfl) (by kernel_rfl) (by kernel_rfl) (by kernel_rfl) (by kernel_rfl) (fun _ _ _ h => h) (Or.inl ⟨by kernel_rfl, ?_⟩) hS ?_
                  · (intro w' hSw; obtain ⟨q0, q1, q2, q3, q4, q5⟩ := HSX.out w' hSw; obtain ⟨z0, z1, z2, z3, z4, z5⟩ := HBB.out w' hSw; clear hSw; go_simp)
                  (try simp only [List.getElem_toArray, List.getElem_cons_succ, List.getElem_cons_zero])
                  go_frame
                  refine wpAnyL_take (i := 4) (v := .int .i64 (M : Int)) rfl (by kernel_rfl) (by kernel_rfl) (by kernel_rfl) (by kernel_rfl) (by kernel_rfl) (fun _ _ _ h => h) (Or.inl ⟨by kernel_rfl, ?_⟩) hS ?_
                  · (intro w' hSw; obtain ⟨q0, q1, q2, q3, q4, q5⟩ := HSX.out w' hSw; obtain ⟨z0, z1, z2, z3, z4, z5⟩ := HBB.out w' hSw; clear hSw; go_simp)
                  (try simp only [List.getElem_toArray, List.getElem_cons_succ, List.getElem_cons_zero])
                  go_frame
                  refine wpAnyL_take (i := 5) (v := .int .i64 (Lt : Int)) rfl (by kernel_rfl) (by kernel_rfl) (by kernel_rfl) (by kernel_rfl) (by kernel_rfl) (fun _ _ _ h => h) (Or.inl ⟨by kernel_rfl, ?_⟩) hS ?_
                  · (intro w' hSw; obtain ⟨q0, q1, q2, q3, q4, q5⟩ := HSX.out w' hSw; obtain ⟨z0, z1, z2, z3, z4, z5⟩ := HBB.out w' hSw; clear hSw; go_simp; rw [IntKind.wrap_i64]; omega)
                  (try simp only [List.getElem_toArray, List.getElem_cons_succ, List.getElem_cons_zero])
                  go_frame
                  refine wpAnyL_take (i := 6) (v := .pointer (some ⟨g, Lt * 6, none⟩)) rfl (by kernel_rfl) (by kernel_rfl) (by kernel_rfl) (by kernel_rfl) (by kernel_rfl) (fun _ _ _ h => h) (Or.inl ⟨by kernel_rfl, ?_⟩) hS ?_
                  · (intro w' hSw; obtain ⟨q0, q1, q2, q3, q4, q5⟩ := HSX.out w' hSw; obtain ⟨z0, z1, z2, z3, z4, z5⟩ := HBB.out w' hSw; clear hSw; go_simp)
                  (try simp only [List.getElem_toArray, List.getElem_cons_succ, List.getElem_cons_zero])
                  go_frame
                  refine wpAnyL_take (i := 7) (v := .agg #[.int .i64 y0, .int .i64 y1, .int .i64 y2, .int .i64 y3, .int .i64 y4, .int .i64 y5]) rfl (by kernel_rfl) (by kernel_rfl) (by kernel_rfl) (by kernel_rfl) (by kernel_rfl) (fun _ _ _ h => h) (Or.inl ⟨by kernel_rfl, ?_⟩) hS ?_
                  · (intro w' hSw; obtain ⟨q0, q1, q2, q3, q4, q5⟩ := HSX.out w' hSw; obtain ⟨z0, z1, z2, z3, z4, z5⟩ := HBB.out w' hSw; clear hSw; go_simp)
                  (try simp only [List.getElem_toArray, List.getElem_cons_succ, List.getElem_cons_zero])
                  go_frame
                  refine wpAnyL_take (i := 8) (v := .agg #[.int .i64 y0, .int .i64 1, .int .i64 V, .int .i64 V, .int .i64 V, .int .i64 V]) rfl (by kernel_rfl) (by kernel_rfl) (by kernel_rfl) (by kernel_rfl) (by kernel_rfl) (fun _ _ _ h => h) (Or.inl ⟨by kernel_rfl, ?_⟩) hS ?_
                  · (intro w' hSw; obtain ⟨q0, q1, q2, q3, q4, q5⟩ := HSX.out w' hSw; obtain ⟨z0, z1, z2, z3, z4, z5⟩ := HBB.out w' hSw; clear hSw; go_simp)
                  (try simp only [List.getElem_toArray, List.getElem_cons_succ, List.getElem_cons_zero])
                  go_frame
                  have hSn : Kept w1 (w1.drewN (nq + 1)) := kept_drewN (Only.refl _ w1) (nq + 1)
                  refine wpAnyL_one (i := 9) (by kernel_rfl) rfl (by kernel_rfl) ?_
                  go_simp
                  refine (HJ.out _ hSn).mono ?_
                  rintro e w4 ⟨rfl, k4⟩
                  have hS4 : Kept w1 w4 := Only.trans hSn k4 (fun _ _ f => f)
                  refine ⟨hS4, ?_⟩
                  refine wpAnyL_one (i := 10) (by kernel_rfl) rfl (by kernel_rfl) ?_
                  go_simp
                  (first | refine ⟨hS4, ?_⟩ | skip)
                  (try go_frame)
                  obtain ⟨hfz, hF⟩ := HST.out _ hS4
                  have HFF := hid hF
                  obtain ⟨q0, q1, q2, q3, q4, q5⟩ := HSX.out _ hS4
                  have f0 := hfz (Lt * 6)
                  have f1 := hfz (Lt * 6 + 1)
                  have f2 := hfz (Lt * 6 + 2)
                  have f3 := hfz (Lt * 6 + 3)
                  have f4 := hfz (Lt * 6 + 4)
                  have f5 := hfz (Lt * 6 + 5)
                  clear hfz hF
                  refine wpAnyL_last (by kernel_rfl) (by kernel_rfl) rfl (by kernel_rfl) ?_
                  go_simp
                  refine NoPanic.normal ?_
                  unfold put6 at HFF
                  obtain ⟨w5, hw5⟩ : ∃ w5, (((((w4.setCell ⟨g, Lt * 6, none⟩ (.int .i64 y0)).setCell ⟨g, Lt * 6 + 1, none⟩ (.int .i64 JC)).setCell ⟨g, Lt * 6 + 2, none⟩ (.int .i64 JS)).setCell ⟨g, Lt * 6 + 3, none⟩ (.int .i64 JM)).setCell ⟨g, Lt * 6 + 4, none⟩ (.int .i64 JX)).setCell ⟨g, Lt * 6 + 5, none⟩ (.int .i64 V) = w5 := ⟨_, rfl⟩
                  obtain ⟨HROW, HK4⟩ := HFF.out w5 hw5.symm
                  rw [hw5]
                  clear HFF f0 f1 f2 f3 f4 f5 q0 q1 q2 q3 q4 q5 hw5 hS4 k4 HST
                  go_wp2
                  go_roundw
                  case rel => exact ⟨i + 1, M, _, _, _, by omega, by go_num, rfl, hid ⟨HGA.out, HLA.out⟩, HROW, HK4.out⟩
                  case measure => simp [intOf]; omega
                · have HGA : Hid (gat x ((l.take (i + 1)).map one) = (t ++ [y]) ++ [(⟨F, 1, V, V, V, V⟩ : Bk)]) := hid (by
                    rw [HG.out]
                    exact push_two t y _ hne)
                  have HLA : Hid (((t ++ [y]) ++ [(⟨F, 1, V, V, V, V⟩ : Bk)] : Bks).length = M + 1) := hid (by rw [List.length_append, HGM.out]; rfl)
                  obtain ⟨Y0, hY0⟩ : ∃ Y0, y.t = Y0 := ⟨_, rfl⟩
                  rw [hY0] at yt hne
                  have e1 : (Y0 == F) = false := by simpa using hne
                  clear hrow1 hxc HXC hyo hMt hLt hY0 hne
                  go_wp2_with fail
                  go_quiet (fail)
                  obtain ⟨g2, cap2, w4, HR, HROW, HK4⟩ := HAPP.out (w1.drewN nq) (kept_drewN (Only.refl _ w1) nq)
                  have HD := hid (HBB.out (w1.drewN nq) (kept_drewN (Only.refl _ w1) nq))
                  obtain ⟨z0, z1, z2, z3, z4, z5⟩ := HD.out
                  go_wp2_with (at_builtin; refine wpList_append_run rfl _ _ _ rfl rfl rfl HR ?_)
                  go_roundw
                  case rel => exact ⟨i + 1, _, _, _, _, by omega, by go_num, rfl, hid ⟨HGA.out, HLA.out⟩, HROW, HK4.out⟩
                  case measure => simp [intOf]; omega
          · have HF : Hid (PQ (.returned (.tuple #[.slice g0 M cc, .int .i64 0])) wr) := hid (by
              rw [← HPQ.out]
              refine ⟨kr, .inr (.inr ⟨HB.out.1, HB.out.2, HOK.out, _, rfl, ?_⟩)⟩
              have e : i = L := by omega
              have h1 := hg.out.1
              rw [List.take_of_length_le (by have := HL.out; omega)] at h1
              have h2 := hv.out
              rw [h1]
              show World.ownsRow _ _ _ _ _ _ _
              rw [hg.out.2]
              exact h2)
            have e : i = L := by omega
            subst e
            clear kr hg hv
            go_wp2
            exact HF.out
      · have HF : Hid (PQ (.returned (.tuple #[.slice none 0 0, .int .i64 21])) w3) := hid (by
          rw [← HPQ.out]
          exact ⟨K2.out.trans k3 (fun _ _ f => f), .inr (.inl ⟨HB.out.1, HB.out.2, fun h => hr ((rising_okT _ l rfl).2 h), rfl⟩)⟩)
        clear k3 hr HRS
        go_wp2
        exact HF.out
end Go.Proofs.Ytdepgplbcfbopaa.Ru
