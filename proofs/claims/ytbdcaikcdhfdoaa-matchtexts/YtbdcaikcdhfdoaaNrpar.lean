/-
  The document's own Parse.
-/
import Derived.Test.YtbdcaikcdhfdoaaNrtext
import Derived.Test.YtbdcaikcdhfdoaaNparse
namespace Go.Proofs.Ytbdcaikcdhfdoaa.N
open Go.RowKit Go.Proofs.Lys
set_option linter.unusedVariables false
set_option linter.unusedSimpArgs false

def hexI (c : UInt8) : Int := match hexV c with
  | some n => (n : Int)
  | none => -1
set_option maxRecDepth 100000 in
theorem rhex_any (w : World) (c : UInt8) : Calls Try.prog 49 #[.int .u8 c.toNat] w fun e w' => e = .returned (.int .i64 (hexI c)) ∧ w' = w := by
  have hcl := c.toNat_lt
  by_cases h1 : 48 ≤ c.toNat ∧ c.toNat ≤ 57
  · have HV : Hid (hexI c = (c.toNat : Int) - 48) := by refine hid ?_; unfold hexI hexV; rw [if_pos h1]; simp; omega
    obtain ⟨p1, p2⟩ := h1
    have q1 : (48 : Int) ≤ (c.toNat : Int) := by omega
    have q2 : (c.toNat : Int) ≤ 57 := by omega
    go_enter Try.func49, Try.ntmps49
    go_wp2
    go_ret
    refine ⟨?_, rfl⟩
    rw [HV.out]
    rfl
  · by_cases h2 : 97 ≤ c.toNat ∧ c.toNat ≤ 102
    · have HV : Hid (hexI c = (c.toNat : Int) - 97 + 10) := by refine hid ?_; unfold hexI hexV; rw [if_neg h1, if_pos h2]; simp; omega
      obtain ⟨p1, p2⟩ := h2
      have q1 : (97 : Int) ≤ (c.toNat : Int) := by omega
      have q2 : (c.toNat : Int) ≤ 102 := by omega
      go_enter Try.func49, Try.ntmps49
      go_wp2
      all_goals try (exfalso; omega)
      all_goals go_ret
      all_goals refine ⟨?_, rfl⟩
      all_goals rw [HV.out]
      all_goals rfl
    · have HV : Hid (hexI c = -1) := by refine hid ?_; unfold hexI hexV; rw [if_neg h1, if_neg h2]
      go_enter Try.func49, Try.ntmps49
      go_wp2
      all_goals try (exfalso; omega)
      all_goals go_ret
      all_goals refine ⟨?_, rfl⟩
      all_goals rw [HV.out]
      all_goals rfl

/-- The bytes of names from a place on, up to another. -/
def Wd (s : ByteArray) (a n : Nat) : Prop := a ≤ n ∧ n ≤ s.size ∧ (s.data.toList.drop a).takeWhile plainB = (s.data.toList.take n).drop a ++ (s.data.toList.drop n).takeWhile plainB
theorem Wd.start (s : ByteArray) {a : Nat} (ha : a ≤ s.size) : Wd s a a := by
  refine ⟨Nat.le_refl _, ha, ?_⟩
  have : (s.data.toList.take a).drop a = [] := List.drop_of_length_le (by rw [List.length_take]; omega)
  rw [this]
  rfl
theorem Wd.step {s : ByteArray} {a n : Nat} (h : Wd s a n) (hn : n < s.size) (hp : plainB (s[n]'hn) = true) : Wd s a (n + 1) := by
  obtain ⟨h1, h2, h3⟩ := h
  refine ⟨by omega, by omega, ?_⟩
  rw [h3, drop_more s n hn, List.takeWhile_cons, if_pos hp, take_snoc s n hn, List.drop_append_of_le_length (by rw [List.length_take, ← Lib.size_eq]; omega)]
  simp
theorem Wd.stop {s : ByteArray} {a n : Nat} (h : Wd s a n) (hn : ∀ h : n < s.size, plainB (s[n]'h) = false) : (s.data.toList.drop a).takeWhile plainB = (s.data.toList.take n).drop a ∧ (s.data.toList.drop a).dropWhile plainB = s.data.toList.drop n := by
  obtain ⟨h1, h2, h3⟩ := h
  have e : (s.data.toList.drop n).takeWhile plainB = [] := by
    by_cases hlt : n < s.size
    · rw [drop_more s n hlt, List.takeWhile_cons, if_neg (by rw [hn hlt]; decide)]
    · rw [List.drop_of_length_le (by rw [← Lib.size_eq]; omega)]
      rfl
  rw [e, List.append_nil] at h3
  refine ⟨h3, ?_⟩
  have h4 := List.takeWhile_append_dropWhile (p := plainB) (l := s.data.toList.drop a)
  rw [h3] at h4
  have h5 : (s.data.toList.take n).drop a ++ s.data.toList.drop n = s.data.toList.drop a := by
    have := List.take_append_drop n s.data.toList
    have h6 : s.data.toList.drop a = ((s.data.toList.take n) ++ s.data.toList.drop n).drop a := by rw [this]
    rw [h6, List.drop_append_of_le_length (by rw [List.length_take, ← Lib.size_eq]; omega)]
  exact List.append_cancel_left (h4.trans h5.symm)

set_option maxRecDepth 100000 in
set_option maxHeartbeats 1600000 in
theorem word_any (w : World) (s : ByteArray) (a : Nat) (ha : a ≤ s.size) (hs : s.size ≤ 100000) :
    Calls Try.prog 30 #[.string s, .int .i64 (a : Int)] w fun e w' => (∃ n, Wd s a n ∧ (∀ h : n < s.size, plainB (s[n]'h) = false) ∧ e = .returned (.string (s.extract a n))) ∧ w' = w := by
  go_enter Try.func30, Try.ntmps30
  go_wp2
  go_loop [5] (fun i => ∃ (n : Nat), i = .int .i64 (n : Int) ∧ Wd s a n) (fun i => s.size - (intOf i).toNat)
  case atStart => exact ⟨a, rfl, Wd.start s ha⟩
  case round =>
    obtain ⟨n, rfl, hw⟩ := hrel
    have h1 := hw.1
    have h2 := hw.2.1
    have HW := hid hw
    clear hw
    have hn1 : (a : Int) ≤ (n : Int) := by omega
    by_cases hlt : n < s.size
    · have hsl : ∀ W, (Instr.sliceAt 9 (.string s) (some (.int .i64 (n : Int))) (some (.int .i64 ((n : Int) + 1))) none).run Try.prog W = .ok (.string (s.extract n (n + 1))) W := fun W => by
        have b1 : n ≤ n + 1 := by omega
        have b2 : n + 1 ≤ s.size := hlt
        rw [show ((n : Int) + 1) = ((n + 1 : Nat) : Int) by omega]
        generalize n + 1 = n1 at b1 b2 ⊢
        simp [Instr.sliceAt, Instr.slice, Instr.sliceBounds, Instr.sliceBound, run_underlying Try.underlying9, asIntOf, b1, b2, Result.andThen]
      have H1 := hid (fun W => plain_any W (s.extract n (n + 1)) (by rw [ByteArray.size_extract]; omega))
      have hpa : plainAll (s.extract n (n + 1)) = plainB (s[n]'hlt) := by
        unfold plainAll
        rw [sub_bytes, take_snoc s n hlt, List.drop_append_of_le_length (by rw [List.length_take, ← Lib.size_eq]; omega), List.drop_of_length_le (by rw [List.length_take]; omega)]
        simp
      rw [hpa] at H1
      cases hp : plainB (s[n]'hlt) with
      | true =>
        rw [hp] at H1
        have HS := hid (HW.out.step hlt hp)
        clear hpa
        go_wp2_with (go_at_call 32; refine (H1.out _).mono ?_)
        exact ⟨⟨n + 1, by go_num, HS.out⟩, by simp [intOf]; omega⟩
      | false =>
        rw [hp] at H1
        have HP := hid hp
        clear hpa
        go_wp2_with (go_at_call 32; refine (H1.out _).mono ?_)
        go_ret
        exact ⟨⟨n, HW.out, fun _ => HP.out, rfl⟩, rfl⟩
    · go_wp2
      go_ret
      exact ⟨⟨n, HW.out, fun h => absurd h hlt, rfl⟩, rfl⟩

/-- A quoted text that begins at a place. -/
def valS (s : ByteArray) (a : Nat) : Option (List UInt8 × List UInt8) := match s.data.toList.drop a with
  | c :: r => if c.toNat = 34 then valR r else none
  | [] => none
/-- What value answers. -/
def ValA (s : ByteArray) (e : Ending) : Option (List UInt8 × List UInt8) → Prop
  | some (v, r) => ∃ n : Nat, n ≤ s.size ∧ s.data.toList.drop n = r ∧ e = .returned (.tuple #[.string (mkB v), .int .i64 (n : Int), .bool true])
  | none => e = .returned (.tuple #[.string ⟨#[]⟩, .int .i64 0, .bool false])
/-- How far it is read. -/
def Vd (s : ByteArray) (R : Option (List UInt8 × List UInt8)) (at_ : Nat) (acc : List UInt8) : Prop := at_ ≤ s.size ∧ acc.length ≤ at_ ∧ R = (valR (s.data.toList.drop at_)).map (fun p => (acc ++ p.1, p.2))
theorem Vd.nothing {s : ByteArray} {R : Option (List UInt8 × List UInt8)} {a : Nat} {acc : List UInt8} (h : Vd s R a acc) (ha : ¬ a < s.size) : R = none := by
  rw [h.2.2, List.drop_of_length_le (by rw [← Lib.size_eq]; omega), valR_nil]
  rfl
theorem Vd.close {s : ByteArray} {R : Option (List UInt8 × List UInt8)} {a : Nat} {acc : List UInt8} (h : Vd s R a acc) (ha : a < s.size) (hc : (s[a]'ha).toNat = 34) : R = some (acc, s.data.toList.drop (a + 1)) := by
  rw [h.2.2, drop_more s a ha, valR_cons, if_pos hc]
  simp
theorem Vd.plain {s : ByteArray} {R : Option (List UInt8 × List UInt8)} {a : Nat} {acc : List UInt8} (h : Vd s R a acc) (ha : a < s.size) (h1 : (s[a]'ha).toNat ≠ 34) (h2 : (s[a]'ha).toNat ≠ 92) : Vd s R (a + 1) (acc ++ [s[a]'ha]) := by
  refine ⟨by omega, by have := h.2.1; simp; omega, ?_⟩
  rw [h.2.2, drop_more s a ha, valR_cons, if_neg h1, if_neg h2, Option.map_map]
  congr 1
  funext z
  simp
theorem Vd.hex {s : ByteArray} {R : Option (List UInt8 × List UInt8)} {a : Nat} {acc : List UInt8} {v : UInt8} (h : Vd s R a acc) (ha : a < s.size) (h2 : (s[a]'ha).toNat = 92) (hx : hex2 (s.data.toList.drop (a + 1)) = some v) : Vd s R (a + 3) (acc ++ [v]) := by
  obtain ⟨p, q, r', hr, _, _⟩ := hex2_two hx
  have hl : (s.data.toList.drop (a + 1)).length = r'.length + 2 := by rw [hr]; rfl
  rw [List.length_drop, ← Lib.size_eq] at hl
  refine ⟨by omega, by have := h.2.1; simp; omega, ?_⟩
  rw [h.2.2, drop_more s a ha, valR_cons, if_neg (by omega), if_pos h2, hx]
  simp only [List.drop_drop, Option.map_map]
  congr 1
  funext z
  simp
theorem Vd.bad {s : ByteArray} {R : Option (List UInt8 × List UInt8)} {a : Nat} {acc : List UInt8} (h : Vd s R a acc) (ha : a < s.size) (h2 : (s[a]'ha).toNat = 92) (hx : hex2 (s.data.toList.drop (a + 1)) = none) : R = none := by
  rw [h.2.2, drop_more s a ha, valR_cons, if_neg (by omega), if_pos h2, hx]
  rfl
theorem hex2_at (s : ByteArray) (a : Nat) (h : a + 3 ≤ s.size) : hex2 (s.data.toList.drop (a + 1)) = match hexV (s[a + 1]'(by omega)), hexV (s[a + 2]'(by omega)) with | some x, some y => some (UInt8.ofNat (16 * x + y)) | _, _ => none := by
  rw [drop_more s (a + 1) (by omega), drop_more s (a + 2) (by omega)]
  rfl
theorem hex2_short (s : ByteArray) (a : Nat) (h : ¬ a + 3 ≤ s.size) : hex2 (s.data.toList.drop (a + 1)) = none := by
  have hl : (s.data.toList.drop (a + 1)).length < 2 := by rw [List.length_drop, ← Lib.size_eq]; omega
  match hh : s.data.toList.drop (a + 1), hl with
  | [], _ => rfl
  | [x], _ => rfl
theorem hexI_some {c : UInt8} {n : Nat} (h : hexV c = some n) : hexI c = (n : Int) ∧ n < 16 := ⟨by unfold hexI; rw [h], (hexV_lt h).1⟩
theorem hexI_none {c : UInt8} (h : hexV c = none) : hexI c = -1 := by unfold hexI; rw [h]

set_option maxRecDepth 100000 in
set_option maxHeartbeats 3200000 in
theorem value_any (w : World) (s : ByteArray) (a : Nat) (ha : a ≤ s.size + 1) (hs : s.size ≤ 100000) :
    Calls Try.prog 31 #[.string s, .int .i64 (a : Int)] w fun e w' => ValA s e (valS s a) ∧ Kept w w' := by
  by_cases h0 : a < s.size
  · by_cases h34 : (s[a]'h0).toNat = 34
    · have HV0 : Hid (Vd s (valS s a) (a + 1) []) := by
        refine ⟨by omega, by simp, ?_⟩
        unfold valS
        rw [drop_more s a h0]
        simp only [if_pos h34]
        simp
      generalize valS s a = R at HV0 ⊢
      have hc34 : (((s[a]'h0).toNat : Int) != 34) = false := by simp; omega
      have h0' : ¬ s.size ≤ a := by omega
      have H34 := hid h34
      clear h34
      go_enter Try.func31, Try.ntmps31
      go_wp2
      generalize hz1 : decide (s.size ≤ a) = z1
      generalize hz2 : (((s[a]'h0).toNat : Int) != 34) = z2
      clear hz1 hz2 hc34 h0'
      go_loopw [1, 7] (fun i b wr => ∃ (k : Nat) (acc : List UInt8), i = .int .i64 (k : Int) ∧ Vd s R k acc ∧ BytAt wr w.heap.size b acc ∧ Kept w wr) (fun i _ _ => s.size - (intOf i).toNat)
      case atStart => exact ⟨a + 1, [], by go_num, HV0.out, ⟨rfl, .inl ⟨rfl, rfl⟩⟩, Only.refl _ _⟩
      case round =>
        obtain ⟨k, acc, rfl, hv, hat, kr⟩ := hrel
        obtain ⟨oa, oc, rfl⟩ := own_slice hat
        have hk := hv.1
        have hal := hv.2.1
        have HV := hid hv
        have HA := hid hat
        have HK := hid kr
        clear hv
        by_cases hlt : k < s.size
        · have hlt' : (k : Int) < (s.size : Int) := by omega
          by_cases c34 : (s[k]'hlt).toNat = 34
          · have hR := HV.out.close hlt c34
            have hcn : (((s[k]'hlt).toNat : Int) != 34) = false := by simp; omega
            have hcv := bytes_conv (own_src hat)
            have HR := hid hR
            have hge : ¬ s.size ≤ k := by omega
            clear c34 hat kr hR
            generalize acc.length = N at hcv HA hal ⊢
            go_wp2
            go_ret3
            refine ⟨?_, HK.out⟩
            rw [HR.out]
            exact ⟨k + 1, by omega, rfl, by go_num⟩
          · have hcn : (((s[k]'hlt).toNat : Int) != 34) = true := by simp; omega
            have hcl := (s[k]'hlt).toNat_lt
            by_cases c92 : (s[k]'hlt).toNat = 92
            · have hc92 : (((s[k]'hlt).toNat : Int) == 92) = true := by simp; omega
              by_cases h3 : k + 3 ≤ s.size
              · have hx2 := hex2_at s k h3
                have G1 := hid (fun W => rhex_any W (s[k + 1]'(by omega)))
                have G2 := hid (fun W => rhex_any W (s[k + 2]'(by omega)))
                have HBd := hid (fun h => HV.out.bad hlt c92 h)
                have HHx := hid (fun v h => HV.out.hex (v := v) hlt c92 h)
                have C92 := hid c92
                have C34 := hid c34
                have t1 : ¬ ((s.size : Int) < (k : Int) + 1 + 2) := by omega
                have t2 : (k : Int) + 1 < (s.size : Int) := by omega
                have t3 : (k : Int) + 1 + 1 < (s.size : Int) := by omega
                clear c92 c34 kr
                cases hA : hexV (s[k + 1]'(by omega)) with
                | none =>
                  rw [hA] at hx2
                  have hbad := hid (HBd.out (by rw [hx2]))
                  have hi := hexI_none hA
                  rw [hi] at G1
                  clear hx2 hA hi HBd HHx
                  go_wp2_with fail
                  refine (G1.out _).mono ?_
                  rintro e w1 ⟨rfl, hq⟩
                  replace hq := hq.symm
                  subst hq
                  go_wp2_with fail
                  refine (G2.out _).mono ?_
                  rintro e w1 ⟨rfl, hq⟩
                  replace hq := hq.symm
                  subst hq
                  go_wp2
                  go_ret3
                  refine ⟨?_, HK.out⟩
                  rw [hbad.out]
                  rfl
                | some x =>
                  obtain ⟨hi, hx16⟩ := hexI_some hA
                  rw [hi] at G1
                  cases hC : hexV (s[k + 2]'(by omega)) with
                  | none =>
                    rw [hA, hC] at hx2
                    have hbad := hid (HBd.out (by rw [hx2]))
                    have hj := hexI_none hC
                    rw [hj] at G2
                    clear hx2 hA hC hi hj HBd HHx
                    go_wp2_with fail
                    refine (G1.out _).mono ?_
                    rintro e w1 ⟨rfl, hq⟩
                    replace hq := hq.symm
                    subst hq
                    go_wp2_with fail
                    refine (G2.out _).mono ?_
                    rintro e w1 ⟨rfl, hq⟩
                    replace hq := hq.symm
                    subst hq
                    go_wp2
                    all_goals try (exfalso; omega)
                    go_ret3
                    refine ⟨?_, HK.out⟩
                    rw [hbad.out]
                    rfl
                  | some y =>
                    obtain ⟨hj, hy16⟩ := hexI_some hC
                    rw [hj] at G2
                    rw [hA, hC] at hx2
                    have HP := hid (HHx.out _ hx2)
                    have hvt : (((UInt8.ofNat (16 * x + y)).toNat : Nat) : Int) = 16 * (x : Int) + (y : Int) := by
                      rw [UInt8.toNat_ofNat']
                      omega
                    have hwr : IntKind.u8.wrap (16 * (x : Int) + (y : Int)) = 16 * (x : Int) + (y : Int) := by
                      simp [IntKind.wrap, IntKind.bits, IntKind.signed]
                      omega
                    obtain ⟨g, cap, w4, Hr, hat4, hk4⟩ := byt_step (w0 := w) hat HK.out [UInt8.ofNat (16 * x + y)] (by simp) (by simp only [List.length_singleton]; omega)
                    simp only [List.map_cons, List.map_nil, List.length_singleton, bV] at Hr hat4
                    rw [hvt] at Hr
                    have HA4 := hid hat4
                    have HK4 := hid hk4
                    clear hx2 hA hC hi hj HBd HHx hat4 hk4 hat hvt
                    go_wp2_with fail
                    refine (G1.out _).mono ?_
                    rintro e w1 ⟨rfl, hq⟩
                    replace hq := hq.symm
                    subst hq
                    go_wp2_with fail
                    refine (G2.out _).mono ?_
                    rintro e w1 ⟨rfl, hq⟩
                    replace hq := hq.symm
                    subst hq
                    go_wp2_with (at_builtin; refine wpList_append_run rfl _ _ _ rfl rfl rfl Hr ?_)
                    refine ⟨⟨k + 3, _, by go_num, HP.out, HA4.out, HK4.out⟩, ?_⟩
                    simp [intOf]
                    omega
              · have hbad := hid (HV.out.bad hlt c92 (hex2_short s k h3))
                have t1 : (s.size : Int) < (k : Int) + 1 + 2 := by omega
                have C92 := hid c92
                have C34 := hid c34
                clear c92 c34
                go_wp2
                all_goals try (exfalso; omega)
                go_ret3
                refine ⟨?_, HK.out⟩
                rw [hbad.out]
                rfl
            · have hc92 : (((s[k]'hlt).toNat : Int) == 92) = false := by simp; omega
              have HP := hid (HV.out.plain hlt c34 c92)
              obtain ⟨g, cap, w4, Hr, hat4, hk4⟩ := byt_step (w0 := w) hat kr [s[k]'hlt] (by simp) (by simp only [List.length_singleton]; omega)
              simp only [List.map_cons, List.map_nil, List.length_singleton, bV] at Hr hat4
              have HA4 := hid hat4
              have HK4 := hid hk4
              have C92 := hid c92
              have C34 := hid c34
              clear c92 c34 hat4 hk4 hat kr
              go_wp2_with (at_builtin; refine wpList_append_run rfl _ _ _ rfl rfl rfl Hr ?_)
              refine ⟨⟨k + 1, _, by go_num, HP.out, HA4.out, HK4.out⟩, ?_⟩
              simp [intOf]
              omega
        · have hR := hid (HV.out.nothing hlt)
          have hlt' : ¬ ((k : Int) < (s.size : Int)) := by omega
          have hge : s.size ≤ k := by omega
          go_wp2
          all_goals try (exfalso; omega)
          go_ret3
          refine ⟨?_, HK.out⟩
          rw [hR.out]
          rfl
    · have hN : Hid (valS s a = none) := by
        refine hid ?_
        unfold valS
        rw [drop_more s a h0]
        simp only [if_neg h34]
      have hc34 : (((s[a]'h0).toNat : Int) != 34) = true := by simp; omega
      have h0' : ¬ s.size ≤ a := by omega
      have H34 := hid h34
      clear h34
      go_enter Try.func31, Try.ntmps31
      go_wp2
      all_goals try (exfalso; simp_all; done)
      go_ret3
      refine ⟨?_, Only.refl _ _⟩
      rw [hN.out]
      rfl
  · have hN : Hid (valS s a = none) := by
      refine hid ?_
      unfold valS
      rw [List.drop_of_length_le (by rw [← Lib.size_eq]; omega)]
    have h0' : s.size ≤ a := by omega
    go_enter Try.func31, Try.ntmps31
    go_wp2
    all_goals try (exfalso; omega)
    go_ret3
    refine ⟨?_, Only.refl _ _⟩
    rw [hN.out]
    rfl
end Go.Proofs.Ytbdcaikcdhfdoaa.N
