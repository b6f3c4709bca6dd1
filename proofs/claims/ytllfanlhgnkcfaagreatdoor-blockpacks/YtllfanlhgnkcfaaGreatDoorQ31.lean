/-
  Ksum, Ktimes.
-/
import Derived.Test.YtllfanlhgnkcfaaGreatDoorQ28
import Derived.Test.YtllfanlhgnkcfaaGreatDoorQ30
import Derived.Test.YtllfanlhgnkcfaaGreatDoorQ12
namespace Go.Proofs.YtllfanlhgnkcfaaGreatDoor.K
open Go.RowKit Go.Proofs.Lys Go.Maps
open Go.Proofs.YtllfanlhgnkcfaaGreatDoor.N (ownN_slice ownN_lt ownN_only ownN_stay ownN_base ownN_typed ownN_some)
set_option linter.unusedVariables false
set_option linter.unusedSimpArgs false
structure ByS (w0 : World) (v0 : Value) (B : Nat) (w : World) (v : Value) (bs : List UInt8) : Prop where
 own : BytAt w B v bs
 only : Only (fun j => v0.ownBlock = some j) w0 w
 from_ : ∀ j, j < w0.heap.size → v.ownBlock = some j → v0.ownBlock = some j
 le : B ≤ w0.heap.size
theorem ByS.start {w : World} {v : Value} {B : Nat} {bs : List UInt8} (h : BytAt w B v bs) (hB : B ≤ w.heap.size) : ByS w v B w v bs := ⟨h, Only.refl _ _, fun _ _ e => e, hB⟩
theorem ByS.stay {w0 w W : World} {v0 v : Value} {B : Nat} {bs : List UInt8} (h : ByS w0 v0 B w v bs) (k : Kept w W) : ByS w0 v0 B W v bs :=
 ⟨ownN_stay h.own k, h.only.trans k (fun _ _ f => f.elim), h.from_, h.le⟩
theorem ByS.step {w0 w W : World} {v0 v v' : Value} {B : Nat} {bs bs' : List UInt8} (h : ByS w0 v0 B w v bs) (h' : BytAt W B v' bs') (k : Only (fun j => v.ownBlock = some j) w W) (hl : ∀ j, j < w.heap.size → v'.ownBlock = some j → v.ownBlock = some j) : ByS w0 v0 B W v' bs' :=
 ⟨h', h.only.trans k (fun j hj e => h.from_ j hj e), fun j hj e => h.from_ j hj (hl j (Nat.lt_of_lt_of_le hj h.only.size) e), h.le⟩
theorem ByS.app {w0 w : World} {v0 v xv : Value} {B : Nat} {bs ps : List UInt8} (h : ByS w0 v0 B w v bs) (hs : SrcOf w xv (ps.map bV)) (hl : bs.length + ps.length ≤ 100000000) :
  ∃ a n c w', Hid ((Builtin.append_ #[28, 28] 0 #[v, xv]).run Tryz.prog w = .ok (.slice a n c) w') ∧ n = bs.length + ps.length ∧ Hid (ByS w0 v0 B w' (.slice a n c) (bs ++ ps)) ∧ Hid (Only (fun j => v.ownBlock = some j) w w') := by
 obtain ⟨v', w', hr, h1, h2, h3⟩ := append_src (P := Tryz.prog) (base := B) Tryz.underlying28 Tryz.infoB rfl (by decide) h.own hs (bytes_one ps) (by rw [List.length_map]; omega) (Nat.le_trans h.le h.only.size)
 have h1' : BytAt w' B v' (bs ++ ps) := by
  unfold BytAt
  rw [List.length_append, List.map_append]
  rw [List.length_map] at h1
  exact h1
 obtain ⟨a, c, e⟩ := ownN_slice h1'
 rw [List.length_append] at e
 have ho : Only (fun j => v.ownBlock = some j) w w' := (Only.refl _ w).grown h2 (fun j e _ => e)
 subst e
 refine ⟨a, _, c, w', hr, rfl, h.step h1' ho (fun j hj e => ?_), ho⟩
 rcases h3 with h3 | h3
 ·rw [h3] at e
  exact e
 ·rw [h3] at e
  cases e
  omega
theorem ByS.str {w0 w : World} {v0 v : Value} {B : Nat} {bs : List UInt8} (h : ByS w0 v0 B w v bs) (h0 : bs ≠ []) (s : ByteArray) (hl : bs.length + s.size ≤ 100000000) :
  ∃ a n c w', Hid ((Builtin.append_ #[28, 9] 0 #[v, .string s]).run Tryz.prog w = .ok (.slice a n c) w') ∧ n = bs.length + s.size ∧ Hid (ByS w0 v0 B w' (.slice a n c) (bs ++ s.data.toList)) ∧ Hid (Only (fun j => v.ownBlock = some j) w w') := by
 obtain ⟨i0, hi0, hz0, hz1, hz2⟩ := info_parts Tryz.infoB
 obtain ⟨v', w', hr, h1, h2, _⟩ := Lib.run_append_own_string (P := Tryz.prog) (w := w) B 28 9 0 5 i0 Tryz.underlying28 Tryz.underlying9 hi0 hz0 hz1 hz2 v bs.length _ h.own s (by unfold maxLen; omega) (by omega) (Nat.le_trans h.le h.only.size)
 have hsl : s.data.toList.length = s.size := (Lib.size_eq s).symm
 have h1' : BytAt w' B v' (bs ++ s.data.toList) := by
  unfold BytAt
  rw [List.length_append, List.map_append, hsl]
  exact h1
 have h3 : v'.ownBlock = v.ownBlock ∨ v'.ownBlock = some w.heap.size := by
  have hsrc := own_src h.own
  rcases h.own.2 with ⟨_, e⟩ | ⟨g, cap, cur, rfl, _, hg, hn, hcm, hcs, _⟩
  ·exact absurd (List.length_eq_zero_iff.1 e) h0
  ·by_cases hroom : bs.length + s.size ≤ cap
   ·have := Lib.run_append_room_string (P := Tryz.prog) w 28 9 0 5 i0 Tryz.underlying28 Tryz.underlying9 hi0 hz1 g bs.length cap cur hg s hroom (by omega)
    rw [this] at hr
    cases hr
    exact .inl rfl
   ·have hcell : ∀ j u, (bs.map bV)[j]? = some u → w.cell? ((⟨g, 0, none⟩ : Addr).add j) = some u := by
     rcases hsrc with ⟨e, _⟩ | ⟨a2, c2, e, hc⟩
     ·cases e
     ·simp only [Value.slice.injEq, Option.some.injEq] at e
      rw [e.1]
      exact hc
    have := Lib.run_append_grow_string (P := Tryz.prog) w 28 9 0 5 i0 _ Tryz.underlying28 Tryz.underlying9 hi0 hz0 ⟨g, 0, none⟩ bs.length cap (bs.map bV) (by rw [List.length_map, hz1]; omega) hcell s (by omega) (by omega) (growslice_fits (by omega) (by rw [hz2]; omega))
    rw [this] at hr
    cases hr
    exact .inr rfl
 obtain ⟨a, c, e⟩ := ownN_slice h1'
 rw [List.length_append, hsl] at e
 have ho : Only (fun j => v.ownBlock = some j) w w' := (Only.refl _ w).grown h2 (fun j e _ => e)
 subst e
 refine ⟨a, _, c, w', hr, rfl, h.step h1' ho (fun j hj e => ?_), ho⟩
 rcases h3 with h3 | h3
 ·rw [h3] at e
  exact e
 ·rw [h3] at e
  cases e
  omega
theorem bsrcG {w : World} {B : Nat} {v : Value} {bs : List UInt8} (h : BytAt w B v bs) : G.BSrc w v bs := by
 refine ⟨own_src h, ?_⟩
 rcases h.2 with ⟨rfl, h0⟩ | ⟨g, cap, cur, rfl, _, _, hcap, _⟩
 ·exact ⟨none, 0, by rw [h0], by omega⟩
 ·exact ⟨_, cap, rfl, by omega⟩
set_option maxRecDepth 100000 in
set_option maxHeartbeats 1600000 in
theorem sum_any (w : World) (v : Value) (bs : List UInt8) (hs : G.BSrc w v bs) (hl : bs.length ≤ 10000000) (hT : G.Tab w) :
  Calls Tryz.prog 52 #[v] w fun e w' => ∃ u, e = .returned u ∧ BytAt w' w.heap.size u (G.four (G.sumL bs)) ∧ Kept w w' := by
 have HS := hid (G.sum_any w v bs hs hl hT)
 obtain ⟨a, c, rfl, _⟩ := id hs.2
 have hlt := G.sumL_lt bs
 generalize hSM : G.sumL bs = n at HS hlt
 clear hs hl hT
 go_enter Tryz.func52, Tryz.ntmps52
 go_wp2_with fail
 refine HS.out.mono ?_
 rintro e w1 ⟨rfl, k1⟩
 have K1 := hid k1
 clear k1
 have e0 : bV (UInt8.ofNat (n % 256)) = .int .u8 ((n : Int) % 256) := by unfold bV; rw [G.ofNat_toNat (by omega)]; congr 1
 have e1 : bV (UInt8.ofNat (n / 256 % 256)) = .int .u8 ((n : Int) / 256 % 256) := by unfold bV; rw [G.ofNat_toNat (by omega)]; congr 1
 have e2 : bV (UInt8.ofNat (n / 65536 % 256)) = .int .u8 ((n : Int) / 65536 % 256) := by unfold bV; rw [G.ofNat_toNat (by omega)]; congr 1
 have e3 : bV (UInt8.ofNat (n / 16777216 % 256)) = .int .u8 ((n : Int) / 16777216) := by unfold bV; rw [G.ofNat_toNat (by omega)]; congr 1; omega
 have HF : Hid (BytAt (w1.alloc (.cells #[.int .u8 ((n : Int) % 256), .int .u8 ((n : Int) / 256 % 256), .int .u8 ((n : Int) / 65536 % 256), .int .u8 ((n : Int) / 16777216)] 5)) w.heap.size (.slice (some ⟨w1.heap.size, 0, none⟩) 4 4) (G.four n) ∧ Kept w (w1.alloc (.cells #[.int .u8 ((n : Int) % 256), .int .u8 ((n : Int) / 256 % 256), .int .u8 ((n : Int) / 65536 % 256), .int .u8 ((n : Int) / 16777216)] 5))) := by
  refine ⟨?_, K1.out.alloc _⟩
  unfold BytAt G.four
  simp only [List.map_cons, List.map_nil, e0, e1, e2, e3]
  exact ownN_base (World.ownsRow_lit w1 #[.int .u8 ((n : Int) % 256), .int .u8 ((n : Int) / 256 % 256), .int .u8 ((n : Int) / 65536 % 256), .int .u8 ((n : Int) / 16777216)] 4 (Nat.le_refl _) (by decide) rfl) K1.out.size
 clear e0 e1 e2 e3
 go_wp2_with fail
 go_ret
 exact ⟨_, rfl, HF.out.1, HF.out.2⟩
end Go.Proofs.YtllfanlhgnkcfaaGreatDoor.K
namespace Go.Proofs.YtllfanlhgnkcfaaGreatDoor.K
open Go.RowKit Go.Proofs.Lys Go.Maps
set_option linter.unusedVariables false
set_option linter.unusedSimpArgs false
theorem rise_go {p t : Int} {r : List Int} (h : p < t) (h2 : t ≤ 9007199254740992) : riseB p (t :: r) = riseB t r := by simp [riseB, h, h2]
theorem rise_no {p t : Int} {r : List Int} (h : ¬ (p < t ∧ t ≤ 9007199254740992)) : riseB p (t :: r) = false := by
 simp only [riseB]
 by_cases h1 : p < t
 ·by_cases h2 : t ≤ 9007199254740992
  ·exact absurd ⟨h1, h2⟩ h
  ·simp [h2]
 ·simp [h1]
def LookA (w : World) (n : Int) (e : Ending) (w' : World) : Prop := Kept w w' ∧ ((n = 0 ∧ e = .returned (.tuple #[])) ∨ (n ≠ 0 ∧ e = gaveF n))
set_option maxRecDepth 100000 in
set_option maxHeartbeats 3200000 in
theorem lookTimes_any (w : World) (v : Value) (l : C.Smps) (hs : SmpSrc w v l) (hl : l.length ≤ 100000) :
  Calls Tryz.prog 47 #[v] w (LookA w (if timesB (l.map (·.1)) = true then 0 else 21)) := by
 obtain ⟨a, c, rfl⟩ := hs.len
 obtain ⟨N, hN⟩ : ∃ N, l.length = N := ⟨_, rfl⟩
 rw [hN] at hs hl ⊢
 have HN := hid hN
 have HS := hid hs
 have HR := hid (fun W => refuse_no 21 W)
 have HY := hid (fun W => refuse_yes 21 W)
 have HOK : Hid (∀ w', timesB (l.map (·.1)) = true → Kept w w' → LookA w (if timesB (l.map (·.1)) = true then 0 else 21) (.returned (.tuple #[])) w') := fun w' h k => by rw [if_pos h]; exact ⟨k, .inl ⟨rfl, rfl⟩⟩
 have HNO : Hid (∀ w', timesB (l.map (·.1)) = false → Kept w w' → LookA w (if timesB (l.map (·.1)) = true then 0 else 21) (gaveF 21) w') := fun w' h k => by rw [if_neg (by rw [h]; decide)]; exact ⟨k, .inr ⟨by decide, rfl⟩⟩
 obtain ⟨R, hR⟩ : ∃ R, LookA w (if timesB (l.map (·.1)) = true then 0 else 21) = R := ⟨_, rfl⟩
 rw [hR] at HOK HNO ⊢
 clear hs hN hR
 go_enter Tryz.func47, Tryz.ntmps47
 go_wp2_with fail
 go_loopw [6] (fun s6 wr => ∃ (i : Nat) (p : Int), i ≤ N ∧ s6 = .int .i64 (i : Int) ∧ -9007199254740993 ≤ p ∧ Hid (i = 0 → p = -9007199254740993) ∧ Hid (∀ j, i = j + 1 → ∀ h : j < l.length, p = l[j].1) ∧ Hid (timesB (l.map (·.1)) = riseB p ((l.map (·.1)).drop i)) ∧ Kept w wr) (fun s6 _ => N - (intOf s6).toNat)
 case atStart => exact ⟨0, -9007199254740993, by omega, rfl, by omega, hid (fun _ => rfl), hid (fun j h => by omega), hid rfl, Only.refl _ _⟩
 case round =>
  obtain ⟨i, p, hi, rfl, hp0, hpz, hpj, htm, kr⟩ := hrel
  by_cases hlt : i < N
  ·have hil : i < l.length := by have := HN.out; omega
   obtain ⟨sb, so, rfl, y0, y1⟩ := (HS.out.stay kr).cell HN.out i hlt
   have HST : Hid (timesB (l.map (·.1)) = riseB p (l[i].1 :: (l.map (·.1)).drop (i + 1))) := by
    show _ = _
    rw [htm.out, List.drop_eq_getElem_cons (by rw [List.length_map]; exact hil), List.getElem_map]
   have HPJ : Hid (∀ j, i + 1 = j + 1 → ∀ h : j < l.length, l[i].1 = l[j].1) := fun j e h => by
    have : i = j := by omega
    subst this
    rfl
   have HPV : Hid (∀ j, i = j + 1 → wr.cell? ⟨sb, so + j * 2, none⟩ = some (.int .i64 p)) := fun j e => by
    obtain ⟨_, _, e1, z0, _⟩ := (HS.out.stay kr).cell HN.out j (by omega)
    simp only [Option.some.injEq, Addr.mk.injEq] at e1
    obtain ⟨rfl, rfl, _⟩ := e1
    rw [hpj.out j e (by omega)]
    exact z0
   generalize l[i].1 = X at y0 HST HPJ
   generalize l[i].2 = VV at y1
   have KR := hid kr
   clear htm hpj kr
   by_cases hb : X < -9007199254740992 ∨ 9007199254740992 < X
   ·have HF := hid (show timesB (l.map (·.1)) = false by rw [HST.out]; exact rise_no (by omega))
    have HKA := hid (show Kept w (wr.alloc (.cells #[.int .i64 X, .int .i64 VV] 53)) from KR.out.alloc _)
    by_cases h1 : X < -9007199254740992
    ·have d1 : decide (X < -9007199254740992) = true := decide_eq_true h1
     clear hb
     go_wp2_with fail
     refine (HY.out _).mono ?_
     rintro e w' ⟨rfl, hw⟩
     replace hw := hw.symm
     subst hw
     exact ⟨rfl, HNO.out _ HF.out HKA.out⟩
    ·have d1 : decide (X < -9007199254740992) = false := decide_eq_false h1
     have d2 : decide (9007199254740992 < X) = true := decide_eq_true (by omega)
     clear hb
     go_wp2_with fail
     refine (HY.out _).mono ?_
     rintro e w' ⟨rfl, hw⟩
     replace hw := hw.symm
     subst hw
     exact ⟨rfl, HNO.out _ HF.out HKA.out⟩
   ·have h1 : ¬ X < -9007199254740992 := by omega
    have h2 : ¬ 9007199254740992 < X := by omega
    have d1 : decide (X < -9007199254740992) = false := decide_eq_false h1
    have d2 : decide (9007199254740992 < X) = false := decide_eq_false h2
    clear hb
    go_wp2_with fail
    refine (HR.out _).mono ?_
    rintro e w' ⟨rfl, hw⟩
    replace hw := hw.symm
    subst hw
    obtain ⟨W1, hW1⟩ : ∃ W1, wr.alloc (.cells #[.int .i64 X, .int .i64 VV] 53) = W1 := ⟨_, rfl⟩
    have hk1 : Kept wr W1 := by rw [← hW1]; exact (Only.refl _ wr).alloc _
    have hb1 : Blk W1 wr.heap.size [.int .i64 X, .int .i64 VV] 53 := by rw [← hW1]; exact Blk.new wr _ _
    have HC := hid (fun W' (k : Kept W1 W') => cell_kept k (hb1.cell 0 rfl))
    have KW := hid (KR.out.trans hk1 (fun _ _ f => f))
    have HPW := hid (fun j e => cell_kept hk1 (HPV.out j e))
    have K0 := hid (show Kept W1 W1.drew from (Only.refl _ _).drew)
    rw [hW1]
    generalize wr.heap.size = BX at *
    clear hW1 hk1 hb1 y0 y1 HPV KR
    have KD := hid (show Kept w W1.drew from KW.out.trans K0.out (fun _ _ f => f))
    go_wp2_with fail
    by_cases hz : i = 0
    ·have HT : Hid (timesB (l.map (·.1)) = riseB X ((l.map (·.1)).drop (i + 1))) := by
      show _ = _
      rw [HST.out, hpz.out hz]
      exact rise_go (by omega) (by omega)
     subst hz
     refine wp_region_noPanic ?_
     refine wp_region_last (L := 1000) (S := fun w' => Kept W1 w') (by kernel_rfl) ?_
     refine wpAnyN_take (i := 0) (v := .int .i64 0) rfl (by kernel_rfl) (by kernel_rfl) (by kernel_rfl) (by decide) (by kernel_rfl) (fun _ _ _ h => h) (Or.inl ⟨by kernel_rfl, ?_⟩) K0.out ?_
     ·(intro w' hSw; go_simp)
     (try simp only [List.getElem_toArray, List.getElem_cons_succ, List.getElem_cons_zero])
     go_frame
     refine wpAnyN_take (i := 1) (v := .bool false) rfl (by kernel_rfl) (by kernel_rfl) (by kernel_rfl) (by decide) (by kernel_rfl) (fun _ _ _ h => h) (Or.inl ⟨by kernel_rfl, ?_⟩) K0.out ?_
     ·(intro w' hSw; go_simp)
     (try simp only [List.getElem_toArray, List.getElem_cons_succ, List.getElem_cons_zero])
     go_frame
     refine wpAnyN_take (i := 2) (v := .bool false) rfl (by kernel_rfl) (by kernel_rfl) (by kernel_rfl) (by decide) (by kernel_rfl) (fun _ _ _ h => h) (Or.inl ⟨by kernel_rfl, ?_⟩) K0.out ?_
     ·(intro w' hSw; go_simp)
     (try simp only [List.getElem_toArray, List.getElem_cons_succ, List.getElem_cons_zero])
     go_frame
     refine wpAnyN_take (i := 3) (v := undef) rfl (by kernel_rfl) (by kernel_rfl) (by kernel_rfl) (by decide) (by kernel_rfl) (fun _ _ _ h => h) (Or.inr ⟨by kernel_rfl, rfl⟩) K0.out ?_
     (try simp only [List.getElem_toArray, List.getElem_cons_succ, List.getElem_cons_zero])
     go_frame
     refine wpAnyN_take (i := 5) (v := undef) rfl (by kernel_rfl) (by kernel_rfl) (by kernel_rfl) (by decide) (by kernel_rfl) (fun _ _ _ h => h) (Or.inr ⟨by kernel_rfl, rfl⟩) K0.out ?_
     (try simp only [List.getElem_toArray, List.getElem_cons_succ, List.getElem_cons_zero])
     go_frame
     refine wpAnyN_take (i := 6) (v := undef) rfl (by kernel_rfl) (by kernel_rfl) (by kernel_rfl) (by decide) (by kernel_rfl) (fun _ _ _ h => h) (Or.inr ⟨by kernel_rfl, rfl⟩) K0.out ?_
     (try simp only [List.getElem_toArray, List.getElem_cons_succ, List.getElem_cons_zero])
     go_frame
     refine wpAnyN_take (i := 7) (v := undef) rfl (by kernel_rfl) (by kernel_rfl) (by kernel_rfl) (by decide) (by kernel_rfl) (fun _ _ _ h => h) (Or.inr ⟨by kernel_rfl, rfl⟩) K0.out ?_
     (try simp only [List.getElem_toArray, List.getElem_cons_succ, List.getElem_cons_zero])
     go_frame
     refine wpAnyN_take (i := 4) (v := undef) rfl (by kernel_rfl) (by kernel_rfl) (by kernel_rfl) (by decide) (by kernel_rfl) (fun _ _ _ h => h) (Or.inr ⟨by kernel_rfl, rfl⟩) K0.out ?_
     (try simp only [List.getElem_toArray, List.getElem_cons_succ, List.getElem_cons_zero])
     go_frame
     refine wpAnyN_take (i := 8) (v := undef) rfl (by kernel_rfl) (by kernel_rfl) (by kernel_rfl) (by decide) (by kernel_rfl) (fun _ _ _ h => h) (Or.inr ⟨by kernel_rfl, rfl⟩) K0.out ?_
     (try simp only [List.getElem_toArray, List.getElem_cons_succ, List.getElem_cons_zero])
     go_frame
     refine wpAnyN_take (i := 9) (v := undef) rfl (by kernel_rfl) (by kernel_rfl) (by kernel_rfl) (by decide) (by kernel_rfl) (fun _ _ _ h => h) (Or.inr ⟨by kernel_rfl, rfl⟩) K0.out ?_
     (try simp only [List.getElem_toArray, List.getElem_cons_succ, List.getElem_cons_zero])
     go_frame
     refine wpAnyN_take (i := 10) (v := undef) rfl (by kernel_rfl) (by kernel_rfl) (by kernel_rfl) (by decide) (by kernel_rfl) (fun _ _ _ h => h) (Or.inr ⟨by kernel_rfl, rfl⟩) K0.out ?_
     (try simp only [List.getElem_toArray, List.getElem_cons_succ, List.getElem_cons_zero])
     go_frame
     refine wpAnyN_take (i := 11) (v := undef) rfl (by kernel_rfl) (by kernel_rfl) (by kernel_rfl) (by decide) (by kernel_rfl) (fun _ _ _ h => h) (Or.inr ⟨by kernel_rfl, rfl⟩) K0.out ?_
     (try simp only [List.getElem_toArray, List.getElem_cons_succ, List.getElem_cons_zero])
     go_frame
     refine wpAnyN_take (i := 12) (v := .bool false) rfl (by kernel_rfl) (by kernel_rfl) (by kernel_rfl) (by decide) (by kernel_rfl) (fun _ _ _ h => h) (Or.inl ⟨by kernel_rfl, ?_⟩) K0.out ?_
     ·(intro w' hSw; go_simp)
     (try simp only [List.getElem_toArray, List.getElem_cons_succ, List.getElem_cons_zero])
     go_frame
     refine wpAnyL_one (i := 13) (by kernel_rfl) rfl (by kernel_rfl) ?_
     go_simp
     refine (HR.out _).mono ?_
     rintro e w' ⟨rfl, hw⟩
     replace hw := hw.symm
     subst hw
     refine ⟨K0.out, ?_⟩
     (try go_frame)
     refine wpAnyN_done (by kernel_rfl) ?_
     refine NoPanic.normal ?_
     go_wp2_with fail
     refine ⟨⟨1, X, by omega, rfl, by omega, hid (fun h => by omega), HPJ, HT, KD.out⟩, ?_⟩
     simp [intOf]
     omega
    ·obtain ⟨j, hj⟩ : ∃ j, i = j + 1 := ⟨i - 1, by omega⟩
     have HD := hid (fun W' (k : Kept W1 W') => cell_kept k (HPW.out j hj))
     have i1 : (i : Int) - 1 = (j : Int) := by omega
     have i0 : (0 : Int) < (i : Int) := by omega
     have d0 : decide ((0 : Int) < (i : Int)) = true := decide_eq_true i0
     have hjN : j < N := by omega
     have hjN2 : (j : Int) < (N : Int) := by omega
     generalize p = Y at *
     clear hj HPW hpz
     by_cases hle : X ≤ Y
     ·have dl : decide (X ≤ Y) = true := decide_eq_true hle
      have HF := hid (HNO.out _ (show timesB (l.map (·.1)) = false by rw [HST.out]; exact rise_no (by omega)) KD.out)
      refine wp_region_last (L := 1000) (S := fun w' => Kept W1 w') (by kernel_rfl) ?_
      refine wpAnyN_take (i := 0) (v := .int .i64 (i : Int)) rfl (by kernel_rfl) (by kernel_rfl) (by kernel_rfl) (by decide) (by kernel_rfl) (fun _ _ _ h => h) (Or.inl ⟨by kernel_rfl, ?_⟩) K0.out ?_
      ·(intro w' hSw; go_simp)
      (try simp only [List.getElem_toArray, List.getElem_cons_succ, List.getElem_cons_zero])
      go_frame
      refine wpAnyN_take (i := 1) (v := .bool true) rfl (by kernel_rfl) (by kernel_rfl) (by kernel_rfl) (by decide) (by kernel_rfl) (fun _ _ _ h => h) (Or.inl ⟨by kernel_rfl, ?_⟩) K0.out ?_
      ·(intro w' hSw; go_simp; omega)
      (try simp only [List.getElem_toArray, List.getElem_cons_succ, List.getElem_cons_zero])
      go_frame
      refine wpAnyN_take (i := 2) (v := .bool true) rfl (by kernel_rfl) (by kernel_rfl) (by kernel_rfl) (by decide) (by kernel_rfl) (fun _ _ _ h => h) (Or.inl ⟨by kernel_rfl, ?_⟩) K0.out ?_
      ·(intro w' hSw; go_simp)
      (try simp only [List.getElem_toArray, List.getElem_cons_succ, List.getElem_cons_zero])
      go_frame
      refine wpAnyN_take (i := 3) (v := .pointer (some ⟨BX, 0, none⟩)) rfl (by kernel_rfl) (by kernel_rfl) (by kernel_rfl) (by decide) (by kernel_rfl) (fun _ _ _ h => h) (Or.inl ⟨by kernel_rfl, ?_⟩) K0.out ?_
      ·(intro w' hSw; go_simp)
      (try simp only [List.getElem_toArray, List.getElem_cons_succ, List.getElem_cons_zero])
      go_frame
      refine wpAnyN_take (i := 4) (v := .int .i64 X) rfl (by kernel_rfl) (by kernel_rfl) (by kernel_rfl) (by decide) (by kernel_rfl) (fun _ _ _ h => h) (Or.inl ⟨by kernel_rfl, ?_⟩) K0.out ?_
      ·(intro w' hSw; have s0 := HC.out w' hSw; clear hSw; go_simp)
      (try simp only [List.getElem_toArray, List.getElem_cons_succ, List.getElem_cons_zero])
      go_frame
      refine wpAnyN_take (i := 5) (v := .slice (some ⟨sb, so, none⟩) N c) rfl (by kernel_rfl) (by kernel_rfl) (by kernel_rfl) (by decide) (by kernel_rfl) (fun _ _ _ h => h) (Or.inl ⟨by kernel_rfl, ?_⟩) K0.out ?_
      ·(intro w' hSw; go_simp)
      (try simp only [List.getElem_toArray, List.getElem_cons_succ, List.getElem_cons_zero])
      go_frame
      refine wpAnyN_take (i := 6) (v := .int .i64 (i : Int)) rfl (by kernel_rfl) (by kernel_rfl) (by kernel_rfl) (by decide) (by kernel_rfl) (fun _ _ _ h => h) (Or.inl ⟨by kernel_rfl, ?_⟩) K0.out ?_
      ·(intro w' hSw; go_simp)
      (try simp only [List.getElem_toArray, List.getElem_cons_succ, List.getElem_cons_zero])
      go_frame
      refine wpAnyN_take (i := 7) (v := .int .i64 (j : Int)) rfl (by kernel_rfl) (by kernel_rfl) (by kernel_rfl) (by decide) (by kernel_rfl) (fun _ _ _ h => h) (Or.inl ⟨by kernel_rfl, ?_⟩) K0.out ?_
      ·(intro w' hSw; go_simp; (rw [IntKind.wrap_i64]; omega))
      (try simp only [List.getElem_toArray, List.getElem_cons_succ, List.getElem_cons_zero])
      go_frame
      refine wpAnyN_take (i := 8) (v := .pointer (some ⟨sb, so + j * 2, none⟩)) rfl (by kernel_rfl) (by kernel_rfl) (by kernel_rfl) (by decide) (by kernel_rfl) (fun _ _ _ h => h) (Or.inl ⟨by kernel_rfl, ?_⟩) K0.out ?_
      ·(intro w' hSw; go_simp)
      (try simp only [List.getElem_toArray, List.getElem_cons_succ, List.getElem_cons_zero])
      go_frame
      refine wpAnyN_take (i := 9) (v := .pointer (some ⟨sb, so + j * 2, none⟩)) rfl (by kernel_rfl) (by kernel_rfl) (by kernel_rfl) (by decide) (by kernel_rfl) (fun _ _ _ h => h) (Or.inl ⟨by kernel_rfl, ?_⟩) K0.out ?_
      ·(intro w' hSw; go_simp)
      (try simp only [List.getElem_toArray, List.getElem_cons_succ, List.getElem_cons_zero])
      go_frame
      refine wpAnyN_take (i := 10) (v := .int .i64 Y) rfl (by kernel_rfl) (by kernel_rfl) (by kernel_rfl) (by decide) (by kernel_rfl) (fun _ _ _ h => h) (Or.inl ⟨by kernel_rfl, ?_⟩) K0.out ?_
      ·(intro w' hSw; have s0 := HD.out w' hSw; clear hSw; go_simp)
      (try simp only [List.getElem_toArray, List.getElem_cons_succ, List.getElem_cons_zero])
      go_frame
      refine wpAnyN_take (i := 11) (v := .bool true) rfl (by kernel_rfl) (by kernel_rfl) (by kernel_rfl) (by decide) (by kernel_rfl) (fun _ _ _ h => h) (Or.inl ⟨by kernel_rfl, ?_⟩) K0.out ?_
      ·(intro w' hSw; go_simp)
      (try simp only [List.getElem_toArray, List.getElem_cons_succ, List.getElem_cons_zero])
      go_frame
      refine wpAnyN_take (i := 12) (v := .bool true) rfl (by kernel_rfl) (by kernel_rfl) (by kernel_rfl) (by decide) (by kernel_rfl) (fun _ _ _ h => h) (Or.inl ⟨by kernel_rfl, ?_⟩) K0.out ?_
      ·(intro w' hSw; go_simp)
      (try simp only [List.getElem_toArray, List.getElem_cons_succ, List.getElem_cons_zero])
      go_frame
      refine wpAnyL_one (i := 13) (by kernel_rfl) rfl (by kernel_rfl) ?_
      go_simp
      refine (HY.out _).mono ?_
      rintro e w' ⟨rfl, hw⟩
      replace hw := hw.symm
      subst hw
      exact ⟨rfl, HF.out⟩
     ·have dl : decide (X ≤ Y) = false := decide_eq_false hle
      have HT : Hid (timesB (l.map (·.1)) = riseB X ((l.map (·.1)).drop (i + 1))) := by
       show _ = _
       rw [HST.out]
       exact rise_go (by omega) (by omega)
      refine wp_region_noPanic ?_
      refine wp_region_last (L := 1000) (S := fun w' => Kept W1 w') (by kernel_rfl) ?_
      refine wpAnyN_take (i := 0) (v := .int .i64 (i : Int)) rfl (by kernel_rfl) (by kernel_rfl) (by kernel_rfl) (by decide) (by kernel_rfl) (fun _ _ _ h => h) (Or.inl ⟨by kernel_rfl, ?_⟩) K0.out ?_
      ·(intro w' hSw; go_simp)
      (try simp only [List.getElem_toArray, List.getElem_cons_succ, List.getElem_cons_zero])
      go_frame
      refine wpAnyN_take (i := 1) (v := .bool true) rfl (by kernel_rfl) (by kernel_rfl) (by kernel_rfl) (by decide) (by kernel_rfl) (fun _ _ _ h => h) (Or.inl ⟨by kernel_rfl, ?_⟩) K0.out ?_
      ·(intro w' hSw; go_simp; omega)
      (try simp only [List.getElem_toArray, List.getElem_cons_succ, List.getElem_cons_zero])
      go_frame
      refine wpAnyN_take (i := 2) (v := .bool true) rfl (by kernel_rfl) (by kernel_rfl) (by kernel_rfl) (by decide) (by kernel_rfl) (fun _ _ _ h => h) (Or.inl ⟨by kernel_rfl, ?_⟩) K0.out ?_
      ·(intro w' hSw; go_simp)
      (try simp only [List.getElem_toArray, List.getElem_cons_succ, List.getElem_cons_zero])
      go_frame
      refine wpAnyN_take (i := 3) (v := .pointer (some ⟨BX, 0, none⟩)) rfl (by kernel_rfl) (by kernel_rfl) (by kernel_rfl) (by decide) (by kernel_rfl) (fun _ _ _ h => h) (Or.inl ⟨by kernel_rfl, ?_⟩) K0.out ?_
      ·(intro w' hSw; go_simp)
      (try simp only [List.getElem_toArray, List.getElem_cons_succ, List.getElem_cons_zero])
      go_frame
      refine wpAnyN_take (i := 4) (v := .int .i64 X) rfl (by kernel_rfl) (by kernel_rfl) (by kernel_rfl) (by decide) (by kernel_rfl) (fun _ _ _ h => h) (Or.inl ⟨by kernel_rfl, ?_⟩) K0.out ?_
      ·(intro w' hSw; have s0 := HC.out w' hSw; clear hSw; go_simp)
      (try simp only [List.getElem_toArray, List.getElem_cons_succ, List.getElem_cons_zero])
      go_frame
      refine wpAnyN_take (i := 5) (v := .slice (some ⟨sb, so, none⟩) N c) rfl (by kernel_rfl) (by kernel_rfl) (by kernel_rfl) (by decide) (by kernel_rfl) (fun _ _ _ h => h) (Or.inl ⟨by kernel_rfl, ?_⟩) K0.out ?_
      ·(intro w' hSw; go_simp)
      (try simp only [List.getElem_toArray, List.getElem_cons_succ, List.getElem_cons_zero])
      go_frame
      refine wpAnyN_take (i := 6) (v := .int .i64 (i : Int)) rfl (by kernel_rfl) (by kernel_rfl) (by kernel_rfl) (by decide) (by kernel_rfl) (fun _ _ _ h => h) (Or.inl ⟨by kernel_rfl, ?_⟩) K0.out ?_
      ·(intro w' hSw; go_simp)
      (try simp only [List.getElem_toArray, List.getElem_cons_succ, List.getElem_cons_zero])
      go_frame
      refine wpAnyN_take (i := 7) (v := .int .i64 (j : Int)) rfl (by kernel_rfl) (by kernel_rfl) (by kernel_rfl) (by decide) (by kernel_rfl) (fun _ _ _ h => h) (Or.inl ⟨by kernel_rfl, ?_⟩) K0.out ?_
      ·(intro w' hSw; go_simp; (rw [IntKind.wrap_i64]; omega))
      (try simp only [List.getElem_toArray, List.getElem_cons_succ, List.getElem_cons_zero])
      go_frame
      refine wpAnyN_take (i := 8) (v := .pointer (some ⟨sb, so + j * 2, none⟩)) rfl (by kernel_rfl) (by kernel_rfl) (by kernel_rfl) (by decide) (by kernel_rfl) (fun _ _ _ h => h) (Or.inl ⟨by kernel_rfl, ?_⟩) K0.out ?_
      ·(intro w' hSw; go_simp)
      (try simp only [List.getElem_toArray, List.getElem_cons_succ, List.getElem_cons_zero])
      go_frame
      refine wpAnyN_take (i := 9) (v := .pointer (some ⟨sb, so + j * 2, none⟩)) rfl (by kernel_rfl) (by kernel_rfl) (by kernel_rfl) (by decide) (by kernel_rfl) (fun _ _ _ h => h) (Or.inl ⟨by kernel_rfl, ?_⟩) K0.out ?_
      ·(intro w' hSw; go_simp)
      (try simp only [List.getElem_toArray, List.getElem_cons_succ, List.getElem_cons_zero])
      go_frame
      refine wpAnyN_take (i := 10) (v := .int .i64 Y) rfl (by kernel_rfl) (by kernel_rfl) (by kernel_rfl) (by decide) (by kernel_rfl) (fun _ _ _ h => h) (Or.inl ⟨by kernel_rfl, ?_⟩) K0.out ?_
      ·(intro w' hSw; have s0 := HD.out w' hSw; clear hSw; go_simp)
      (try simp only [List.getElem_toArray, List.getElem_cons_succ, List.getElem_cons_zero])
      go_frame
      refine wpAnyN_take (i := 11) (v := .bool false) rfl (by kernel_rfl) (by kernel_rfl) (by kernel_rfl) (by decide) (by kernel_rfl) (fun _ _ _ h => h) (Or.inl ⟨by kernel_rfl, ?_⟩) K0.out ?_
      ·(intro w' hSw; go_simp)
      (try simp only [List.getElem_toArray, List.getElem_cons_succ, List.getElem_cons_zero])
      go_frame
      refine wpAnyN_take (i := 12) (v := .bool false) rfl (by kernel_rfl) (by kernel_rfl) (by kernel_rfl) (by decide) (by kernel_rfl) (fun _ _ _ h => h) (Or.inl ⟨by kernel_rfl, ?_⟩) K0.out ?_
      ·(intro w' hSw; go_simp)
      (try simp only [List.getElem_toArray, List.getElem_cons_succ, List.getElem_cons_zero])
      go_frame
      refine wpAnyL_one (i := 13) (by kernel_rfl) rfl (by kernel_rfl) ?_
      go_simp
      refine (HR.out _).mono ?_
      rintro e w' ⟨rfl, hw⟩
      replace hw := hw.symm
      subst hw
      refine ⟨K0.out, ?_⟩
      (try go_frame)
      refine wpAnyN_done (by kernel_rfl) ?_
      refine NoPanic.normal ?_
      go_wp2_with fail
      refine ⟨⟨i + 1, X, by omega, by go_num, by omega, hid (fun h => by omega), HPJ, HT, KD.out⟩, ?_⟩
      simp [intOf]
      omega
  ·obtain rfl : N = i := by omega
   have HF := hid (HOK.out wr (by rw [htm.out, List.drop_eq_nil_of_le (by rw [List.length_map]; have := HN.out; omega)]; rfl) kr)
   clear htm hpj hpz kr
   go_wp2
   go_end0
   exact HF.out
end Go.Proofs.YtllfanlhgnkcfaaGreatDoor.K
